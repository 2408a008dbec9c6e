/- Each call of a buffer, told of the three of them: put, delete, get, Len, Mark. -/
import Derived.Test.YtgohhlngnnmknaaPE
import Derived.Test.YtgohhlngnnmknaaQB
import Derived.Test.YtgohhlngnnmknaaLC
namespace Go.Proofs.Ytgohhlngnnmknaa
open Go.RowKit Go.Maps
set_option linter.unusedVariables false

/-- bytes that are few enough to be told. -/
def Esm (e : Ee) : Prop := e.key.length ≤ 140737488351232 ∧ e.val.length ≤ 140737488351232
theorem esm_put {es : List Ee} {e : Ee} (h : ∀ x ∈ es, Esm x) (he : Esm e) : ∀ x ∈ put es e, Esm x := fun x hx => (put_mem hx).elim (fun h1 => h1 ▸ he) (fun h1 => h x h1)
theorem esm_fold : ∀ {L acc : List Ee}, (∀ x ∈ L, Esm x) → (∀ x ∈ acc, Esm x) → ∀ x ∈ L.foldl put acc, Esm x
  | [], acc, _, h => h
  | e :: L, acc, hL, h => esm_fold (L := L) (fun x hx => hL x (List.mem_cons_of_mem _ hx)) (esm_put h (hL e (List.mem_cons_self ..)))
theorem len_fold : ∀ (L acc : List Ee), (L.foldl put acc).length ≤ acc.length + L.length
  | [], acc => by simp
  | e :: L, acc => by
    have h1 := len_fold L (put acc e)
    have h2 := (put_len acc e).1
    simp only [List.foldl_cons, List.length_cons]
    omega
theorem St2.hlen {w : World} {p B n : Nat} {es : List Ee} {hs : List (List Ee)} {O E : Nat → Prop} (h : St2 w p B es n hs O E) : hs.length = n := by
  obtain ⟨sv, uv, xs, us, hh, h1, h2, rfl, rfl, h5, h6, h7, h8⟩ := h
  rw [List.length_map]; exact h1.len
theorem hh_snoc {L : List Ee} {hs : List (List Ee)} (hl : hs.length = L.length) (hh : ∀ j, j ≤ L.length → (hs ++ [L.foldl put []])[j]? = some ((L.take j).foldl put [])) (e : Ee) : ∀ j, j ≤ (L ++ [e]).length → ((hs ++ [L.foldl put []]) ++ [(L ++ [e]).foldl put []])[j]? = some (((L ++ [e]).take j).foldl put []) := by
  intro j hj
  simp only [List.length_append, List.length_singleton] at hj
  by_cases h1 : j ≤ L.length
  · rw [List.getElem?_append_left (by simp; omega), hh j h1, List.take_append_of_le_length h1]
  · have : j = L.length + 1 := by omega
    subst this
    rw [List.getElem?_append_right (by simp; omega), List.take_of_length_le (by simp)]
    simp [hl]
theorem hh_take {L : List Ee} {hs : List (List Ee)} (hl : hs.length = L.length) (hh : ∀ j, j ≤ L.length → (hs ++ [L.foldl put []])[j]? = some ((L.take j).foldl put [])) {m : Nat} (hm : m ≤ L.length) : ∀ j, j ≤ (L.take m).length → (hs.take m ++ [(L.take m).foldl put []])[j]? = some (((L.take m).take j).foldl put []) := by
  intro j hj
  rw [List.length_take, Nat.min_eq_left hm] at hj
  by_cases h1 : j < m
  · rw [List.getElem?_append_left (by simp; omega), List.getElem?_take, if_pos h1, List.take_take, Nat.min_eq_left hj]
    have := hh j (by omega)
    rwa [List.getElem?_append_left (by omega)] at this
  · have : j = m := by omega
    subst this
    rw [List.getElem?_append_right (by simp; omega)]
    simp [hl, Nat.min_eq_left hm, List.take_take]
def Dn (B0 N : Nat) (X : Nat → Prop) (w : World) (p : Nat) (Lb Lr : List Ee) (pr q : Nat) : Prop :=
  ∃ hs O E v ys f n0 A0 C0 Z0 n1 A1 C1 Z1 n2 A2 C2 Z2, Dz B0 X w p Lb hs O E pr v ys q f n0 A0 C0 Z0 n1 A1 C1 Z1 n2 A2 C2 Z2 ∧ ers ys = Lr ∧ n0 ≤ 4 * N ∧ n1 ≤ N ∧ n2 ≤ N ∧ Lb.length ≤ N ∧ Lr.length ≤ N ∧ (∀ e ∈ Lb, Esm e) ∧ ∀ e ∈ Lr, Esm e
section
variable {B0 N : Nat} {X : Nat → Prop} {w w' : World} {p : Nat} {Lb Lr : List Ee} {pr q : Nat}
theorem Dn.base (h : Dn B0 N X w p Lb Lr pr q) : B0 ≤ w.heap.size := by
  obtain ⟨hs, O, E, v, ys, f, n0, A0, C0, Z0, n1, A1, C1, Z1, n2, A2, C2, Z2, h1, h2⟩ := h
  exact h1.base
theorem Dn.x (h : Dn B0 N X w p Lb Lr pr q) {j : Nat} (hj : X j) : j < w.heap.size ∧ u8f w j := by
  obtain ⟨hs, O, E, v, ys, f, n0, A0, C0, Z0, n1, A1, C1, Z1, n2, A2, C2, Z2, h1, h2⟩ := h
  exact ⟨(h1.xx j hj).1, (h1.xx j hj).2.1⟩
theorem Dn.below (h : Dn B0 N X w p Lb Lr pr q) (hb : Below w.heap.size w w') : Dn B0 N X w' p Lb Lr pr q := by
  obtain ⟨hs, O, E, v, ys, f, n0, A0, C0, Z0, n1, A1, C1, Z1, n2, A2, C2, Z2, h1, h2⟩ := h
  exact ⟨hs, O, E, v, ys, f, n0, A0, C0, Z0, n1, A1, C1, Z1, n2, A2, C2, Z2, h1.below hb, h2⟩
theorem Dn.lend (h : Dn B0 N X w p Lb Lr pr q) (hb : Below w.heap.size w w') {X' : Nat → Prop} (hX : ∀ j, X' j → X j ∨ (w.heap.size ≤ j ∧ u8f w' j)) : Dn B0 N X' w' p Lb Lr pr q := by
  obtain ⟨hs, O, E, v, ys, f, n0, A0, C0, Z0, n1, A1, C1, Z1, n2, A2, C2, Z2, h1, h2⟩ := h
  exact ⟨hs, O, E, v, ys, f, n0, A0, C0, Z0, n1, A1, C1, Z1, n2, A2, C2, Z2, h1.lend hb hX, h2⟩
theorem Dn.spoil (h : Dn B0 N X w p Lb Lr pr q) {g : Nat} (hX : X g) (hg : w.grownBy w' (some g)) {X' : Nat → Prop} (hX' : ∀ j, X' j → X j ∧ j ≠ g) : Dn B0 N X' w' p Lb Lr pr q := by
  obtain ⟨hs, O, E, v, ys, f, n0, A0, C0, Z0, n1, A1, C1, Z1, n2, A2, C2, Z2, h1, h2⟩ := h
  exact ⟨hs, O, E, v, ys, f, n0, A0, C0, Z0, n1, A1, C1, Z1, n2, A2, C2, Z2, h1.spoil hX hg hX', h2⟩
theorem Dn.up (h : Dn B0 N X w p Lb Lr pr q) {M : Nat} (hM : N ≤ M) : Dn B0 M X w p Lb Lr pr q := by
  obtain ⟨hs, O, E, v, ys, f, n0, A0, C0, Z0, n1, A1, C1, Z1, n2, A2, C2, Z2, h1, h2, h3, h4, h5, h6, h7, h8⟩ := h
  exact ⟨hs, O, E, v, ys, f, n0, A0, C0, Z0, n1, A1, C1, Z1, n2, A2, C2, Z2, h1, h2, by omega, by omega, by omega, by omega, by omega, h8⟩
theorem Dn.len (h : Dn B0 N X w p Lb Lr pr q) : Lb.length ≤ N ∧ Lr.length ≤ N ∧ (∀ e ∈ Lb, Esm e) ∧ ∀ e ∈ Lr, Esm e := by
  obtain ⟨hs, O, E, v, ys, f, n0, A0, C0, Z0, n1, A1, C1, Z1, n2, A2, C2, Z2, h1, h2, h3, h4, h5, h6, h7, h8⟩ := h
  exact ⟨h6, h7, h8⟩
theorem Dn.put_any (h : Dn B0 N X w p Lb Lr pr q) (hN : N ≤ 900) (ka va : Option Addr) (kn kc vn vc : Nat) (key val : List Int) (hk : Inn w ka kn kc key) (hv : Inn w va vn vc val) (hkl : kn ≤ 140737488351232) (hvl : vn ≤ 140737488351232) :
    Calls Try.prog 14 #[.pointer (some ⟨p, 0, none⟩), .slice ka kn kc, .slice va vn vc] w fun e w' => e = .returned (.tuple #[]) ∧ Dn B0 (N + 1) X w' p (Lb ++ [⟨key, val, false⟩]) Lr pr q ∧ Kx B0 w w' := by
  obtain ⟨hs, O, E, v, ys, f, n0, A0, C0, Z0, n1, A1, C1, Z1, n2, A2, C2, Z2, h1, h2, h3, h4, h5, h6, h7, h8, h9⟩ := h
  refine (put2_any h1.b ka va kn kc vn vc key val hk hv hkl hvl (by omega) (by have := len_fold Lb []; simp only [List.length_nil] at this; omega)).mono ?_
  rintro r w' ⟨rfl, O', E', hb, hg, he⟩
  obtain ⟨d1, d2⟩ := h1.b_on (Lb' := Lb ++ [⟨key, val, false⟩]) (by rw [List.foldl_append, List.length_append]; exact hb) hg he (hh_snoc h1.b.hlen h1.hh _)
  refine ⟨rfl, ⟨_, O', E', v, ys, f, n0, A0, C0, Z0, n1, A1, C1, Z1, n2, A2, C2, Z2, d1, h2, by omega, by omega, by omega, by simp; omega, by omega, fun e he => ?_, h9⟩, d2⟩
  rcases List.mem_append.1 he with he | he
  · exact h8 e he
  · rw [List.mem_singleton.1 he]
    exact ⟨by show key.length ≤ _; rw [hk.len]; exact hkl, by show val.length ≤ _; rw [hv.len]; exact hvl⟩
theorem Dn.delete_any (h : Dn B0 N X w p Lb Lr pr q) (hN : N ≤ 900) (ka : Option Addr) (kn kc : Nat) (key : List Int) (hk : Inn w ka kn kc key) (hkl : kn ≤ 140737488351232) :
    Calls Try.prog 15 #[.pointer (some ⟨p, 0, none⟩), .slice ka kn kc] w fun e w' => e = .returned (.tuple #[]) ∧ Dn B0 (N + 1) X w' p (Lb ++ [⟨key, [], true⟩]) Lr pr q ∧ Kx B0 w w' := by
  obtain ⟨hs, O, E, v, ys, f, n0, A0, C0, Z0, n1, A1, C1, Z1, n2, A2, C2, Z2, h1, h2, h3, h4, h5, h6, h7, h8, h9⟩ := h
  refine (delete2_any h1.b ka kn kc key hk hkl (by omega) (by have := len_fold Lb []; simp only [List.length_nil] at this; omega)).mono ?_
  rintro r w' ⟨rfl, O', E', hb, hg, he⟩
  obtain ⟨d1, d2⟩ := h1.b_on (Lb' := Lb ++ [⟨key, [], true⟩]) (by rw [List.foldl_append, List.length_append]; exact hb) hg he (hh_snoc h1.b.hlen h1.hh _)
  refine ⟨rfl, ⟨_, O', E', v, ys, f, n0, A0, C0, Z0, n1, A1, C1, Z1, n2, A2, C2, Z2, d1, h2, by omega, by omega, by omega, by simp; omega, by omega, fun e he => ?_, h9⟩, d2⟩
  rcases List.mem_append.1 he with he | he
  · exact h8 e he
  · rw [List.mem_singleton.1 he]
    exact ⟨by show key.length ≤ _; rw [hk.len]; exact hkl, by show ([] : List Int).length ≤ _; simp⟩
theorem Dn.back_any (h : Dn B0 N X w p Lb Lr pr q) (hN : N ≤ 900) (m : Nat) (hm : m ≤ Lb.length) :
    Calls Try.prog 33 #[.pointer (some ⟨p, 0, none⟩), .int .i64 (m : Int)] w fun e w' => e = .returned (.int .u16 0) ∧ Dn B0 N X w' p (Lb.take m) Lr pr q ∧ Kx B0 w w' := by
  obtain ⟨hs, O, E, v, ys, f, n0, A0, C0, Z0, n1, A1, C1, Z1, n2, A2, C2, Z2, h1, h2, h3, h4, h5, h6, h7, h8, h9⟩ := h
  have hl := h1.b.hlen
  refine (back2_any h1.b hm (by omega) fun k l hk hl' => ?_).mono ?_
  · have hk2 : k ≤ Lb.length := by
      have := (List.getElem?_eq_some_iff.1 hl').1
      simp at this; omega
    rw [h1.hh k hk2] at hl'
    cases hl'
    have := len_fold (Lb.take k) []
    simp only [List.length_nil, List.length_take] at this
    omega
  · rintro r w' ⟨rfl, O', E', es', he', hb, hg, he⟩
    rw [h1.hh m hm] at he'
    cases he'
    obtain ⟨d1, d2⟩ := h1.b_on (Lb' := Lb.take m) (hs' := hs.take m) (by rw [List.length_take, Nat.min_eq_left hm]; exact hb) hg (fun j hj => .inl (he j hj)) (hh_take hl h1.hh hm)
    exact ⟨rfl, ⟨_, O', E', v, ys, f, n0, A0, C0, Z0, n1, A1, C1, Z1, n2, A2, C2, Z2, d1, h2, by omega, by omega, by omega, by simp; omega, by omega, fun e he => h8 e (List.mem_of_mem_take he), h9⟩, d2⟩
theorem Dn.back_no (h : Dn B0 N X w p Lb Lr pr q) (z : Int) (hz : z < 0 ∨ (Lb.length : Int) < z) :
    Calls Try.prog 33 #[.pointer (some ⟨p, 0, none⟩), .int .i64 z] w fun e w' => e = .returned (.int .u16 1) ∧ w' = w := by
  obtain ⟨hs, O, E, v, ys, f, n0, A0, C0, Z0, n1, A1, C1, Z1, n2, A2, C2, Z2, h1, h2⟩ := h
  exact (Go.Proofs.Ytgohhlngnnmknaa.back_no h1.b.st z hz)
theorem Dn.len_any (h : Dn B0 N X w p Lb Lr pr q) : Calls Try.prog 20 #[.pointer (some ⟨p, 0, none⟩)] w fun e w' => e = .returned (.int .i64 ((Lb.foldl put []).length : Int)) ∧ w' = w := by
  obtain ⟨hs, O, E, v, ys, f, n0, A0, C0, Z0, n1, A1, C1, Z1, n2, A2, C2, Z2, h1, h2⟩ := h
  exact Go.Proofs.Ytgohhlngnnmknaa.len_any h1.b.st
theorem Dn.mark_any (h : Dn B0 N X w p Lb Lr pr q) : Calls Try.prog 21 #[.pointer (some ⟨p, 0, none⟩)] w fun e w' => e = .returned (.int .i64 (Lb.length : Int)) ∧ w' = w := by
  obtain ⟨hs, O, E, v, ys, f, n0, A0, C0, Z0, n1, A1, C1, Z1, n2, A2, C2, Z2, h1, h2⟩ := h
  exact Go.Proofs.Ytgohhlngnnmknaa.mark_any h1.b.st
theorem Dn.fold (h : Dn B0 N X w p Lb Lr pr q) : (Lb.foldl put []).length ≤ N ∧ (∀ x ∈ Lb.foldl put [], Esm x) ∧ Ris (Lb.foldl put []) := by
  obtain ⟨hs, O, E, v, ys, f, n0, A0, C0, Z0, n1, A1, C1, Z1, n2, A2, C2, Z2, h1, h2, h3, h4, h5, h6, h7, h8, h9⟩ := h
  exact ⟨by have := len_fold Lb []; simp only [List.length_nil] at this; omega, esm_fold h8 (by simp), h1.b.st.ris⟩
theorem Dn.get_any (h : Dn B0 N X w p Lb Lr pr q) (hN : N ≤ 900) (ka : Option Addr) (kn kc : Nat) (key : List Int) (hk : Inn w ka kn kc key) :
    Calls Try.prog 26 #[.pointer (some ⟨p, 0, none⟩), .slice ka kn kc] w (TellOut w (lk (Lb.foldl put []) key)) := by
  obtain ⟨e1, e2, e3⟩ := h.fold
  obtain ⟨hs, O, E, v, ys, f, n0, A0, C0, Z0, n1, A1, C1, Z1, n2, A2, C2, Z2, h1, h2⟩ := h
  exact get_st h1.b.st ka kn kc key hk (by omega) e2
theorem Dn.next_any (h : Dn B0 N X w p Lb Lr pr q) (hN : N ≤ 900) (ka : Option Addr) (kn kc : Nat) (key : List Int) (inn : Bool) (hk : Inn w ka kn kc key) :
    Calls Try.prog 28 #[.pointer (some ⟨p, 0, none⟩), .slice ka kn kc, .bool inn] w (TellOut w ((Lb.foldl put []).find? (fun e => bhU e.key key inn))) := by
  obtain ⟨e1, e2, e3⟩ := h.fold
  obtain ⟨hs, O, E, v, ys, f, n0, A0, C0, Z0, n1, A1, C1, Z1, n2, A2, C2, Z2, h1, h2⟩ := h
  obtain ⟨sv, uv, xs, us, hh, b1, b2, b3, b4, b5, b6, b7⟩ := h1.b
  rw [← b2] at e1 e2 e3 ⊢
  rw [ers_len] at e1
  exact bnext_any b1.bf e3 ka kn kc key inn hk (by omega) (fun x hx => e2 x.e (List.mem_map.2 ⟨x, hx, rfl⟩)) _ rfl
theorem Dn.prev_any (h : Dn B0 N X w p Lb Lr pr q) (hN : N ≤ 900) (ka : Option Addr) (kn kc : Nat) (key : List Int) (inn : Bool) (hk : Inn w ka kn kc key) :
    Calls Try.prog 30 #[.pointer (some ⟨p, 0, none⟩), .slice ka kn kc, .bool inn] w (TellOut w ((Lb.foldl put []).reverse.find? (fun e => bhD e.key key inn))) := by
  obtain ⟨e1, e2, e3⟩ := h.fold
  obtain ⟨hs, O, E, v, ys, f, n0, A0, C0, Z0, n1, A1, C1, Z1, n2, A2, C2, Z2, h1, h2⟩ := h
  obtain ⟨sv, uv, xs, us, hh, b1, b2, b3, b4, b5, b6, b7⟩ := h1.b
  rw [← b2] at e1 e2 e3 ⊢
  rw [ers_len] at e1
  exact bprev_any b1.bf e3 ka kn kc key inn hk (by omega) (fun x hx => e2 x.e (List.mem_map.2 ⟨x, hx, rfl⟩)) _ rfl
theorem ers_snoc (ys : List En) (y : En) : ers (ys ++ [y]) = ers ys ++ [y.e] := by simp [ers]
theorem Dn.r_out (h : Dn B0 N X w p Lb Lr pr q) (e : Ee) (he : Esm e) {F : FuncId} {ar : Array Value} (hc : ∀ v ys, Rr w pr v ys → ys.length = Lr.length → Calls Try.prog F ar w (RrOut w pr v ys e)) :
    Calls Try.prog F ar w fun r w' => r = .returned (.tuple #[]) ∧ Dn B0 (N + 1) X w' p Lb (Lr ++ [e]) pr q ∧ Kx B0 w w' := by
  obtain ⟨hs, O, E, v, ys, f, n0, A0, C0, Z0, n1, A1, C1, Z1, n2, A2, C2, Z2, h1, h2, h3, h4, h5, h6, h7, h8, h9⟩ := h
  refine (hc v ys h1.r (by rw [← h2, ers_len])).mono ?_
  rintro r w' ⟨rfl, v', y, rfl, hr, ho, hm, hv⟩
  obtain ⟨d1, d2⟩ := h1.r_on hr hm hv fun z hz j hj => by
    rcases List.mem_append.1 hz with hz | hz
    · exact .inl ⟨z, hz, hj⟩
    · rw [List.mem_singleton.1 hz] at hj
      exact .inr (ho.ge hj)
  refine ⟨rfl, ⟨hs, O, E, v', ys ++ [y], f, n0, A0, C0, Z0, n1, A1, C1, Z1, n2, A2, C2, Z2, d1, by rw [ers_snoc, h2], by omega, by omega, by omega, by omega, by simp; omega, h8, fun x hx => ?_⟩, d2⟩
  rcases List.mem_append.1 hx with hx | hx
  · exact h9 x hx
  · rw [List.mem_singleton.1 hx]; exact he
theorem Dn.rput_any (h : Dn B0 N X w p Lb Lr pr q) (hN : N ≤ 900) (ka va : Option Addr) (kn kc vn vc : Nat) (key val : List Int) (hk : Inn w ka kn kc key) (hv : Inn w va vn vc val) (hkl : kn ≤ 140737488351232) (hvl : vn ≤ 140737488351232) :
    Calls Try.prog 22 #[.pointer (some ⟨pr, 0, none⟩), .slice ka kn kc, .slice va vn vc] w fun r w' => r = .returned (.tuple #[]) ∧ Dn B0 (N + 1) X w' p Lb (Lr ++ [⟨key, val, false⟩]) pr q ∧ Kx B0 w w' := by
  have hl := h.len
  exact h.r_out ⟨key, val, false⟩ ⟨by show key.length ≤ _; rw [hk.len]; exact hkl, by show val.length ≤ _; rw [hv.len]; exact hvl⟩ fun v ys hr hy => rput2_any hr ka va kn kc vn vc key val hk hv hkl hvl (by omega)
theorem Dn.rdelete_any (h : Dn B0 N X w p Lb Lr pr q) (hN : N ≤ 900) (ka : Option Addr) (kn kc : Nat) (key : List Int) (hk : Inn w ka kn kc key) (hkl : kn ≤ 140737488351232) :
    Calls Try.prog 25 #[.pointer (some ⟨pr, 0, none⟩), .slice ka kn kc] w fun r w' => r = .returned (.tuple #[]) ∧ Dn B0 (N + 1) X w' p Lb (Lr ++ [⟨key, [], true⟩]) pr q ∧ Kx B0 w w' := by
  have hl := h.len
  exact h.r_out ⟨key, [], true⟩ ⟨by show key.length ≤ _; rw [hk.len]; exact hkl, by show ([] : List Int).length ≤ _; simp⟩ fun v ys hr hy => rdelete2_any hr ka kn kc key hk hkl (by omega)
theorem Dn.rback_any (h : Dn B0 N X w p Lb Lr pr q) (m : Nat) (hm : m ≤ Lr.length) :
    Calls Try.prog 34 #[.pointer (some ⟨pr, 0, none⟩), .int .i64 (m : Int)] w fun e w' => e = .returned (.int .i64 0) ∧ Dn B0 N X w' p Lb (Lr.take m) pr q ∧ Kx B0 w w' := by
  obtain ⟨hs, O, E, v, ys, f, n0, A0, C0, Z0, n1, A1, C1, Z1, n2, A2, C2, Z2, h1, h2, h3, h4, h5, h6, h7, h8, h9⟩ := h
  refine (rback_yes h1.r m (by rw [← ers_len, h2]; exact hm)).mono ?_
  rintro r w' ⟨rfl, v', hr, hmv, hv⟩
  obtain ⟨d1, d2⟩ := h1.r_on hr (hmv.mono fun j hj => .inl hj) (fun j hj => .inl (hv j hj)) fun z hz j hj => .inl ⟨z, List.mem_of_mem_take hz, hj⟩
  exact ⟨rfl, ⟨hs, O, E, v', ys.take m, f, n0, A0, C0, Z0, n1, A1, C1, Z1, n2, A2, C2, Z2, d1, by rw [← h2]; simp [ers, List.map_take], by omega, by omega, by omega, by omega, by simp; omega, h8, fun x hx => h9 x (List.mem_of_mem_take hx)⟩, d2⟩
theorem Dn.rback_no (h : Dn B0 N X w p Lb Lr pr q) (z : Int) (hz : z < 0 ∨ (Lr.length : Int) < z) :
    Calls Try.prog 34 #[.pointer (some ⟨pr, 0, none⟩), .int .i64 z] w fun e w' => e = .returned (.int .i64 1) ∧ w' = w := by
  obtain ⟨hs, O, E, v, ys, f, n0, A0, C0, Z0, n1, A1, C1, Z1, n2, A2, C2, Z2, h1, h2, h3⟩ := h
  exact Go.Proofs.Ytgohhlngnnmknaa.rback_no h1.r z (by rw [← ers_len, h2]; exact hz)
/-- bytes that stay: lower than a place, or in a block of bytes. -/
def lw (B0 : Nat) (w : World) (a : Option Addr) (zs : List Int) : Prop := zs = [] ∨ ∃ b off, a = some ⟨b, off, none⟩ ∧ (b < B0 ∨ u8f w b)
structure EnU (B0 : Nat) (y : En) (w : World) : Prop where
  ok : y.Ok w
  k : lw B0 w y.ka y.e.key
  v : lw B0 w y.va y.e.val
theorem lw_kx {B0 : Nat} {w w' : World} {a : Option Addr} {n c : Nat} {zs : List Int} (h : Inn w a n c zs) (hl : lw B0 w a zs) (hx : Kx B0 w w') : Inn w' a n c zs ∧ lw B0 w' a zs := by
  rcases hl with rfl | ⟨b, off, rfl, hb⟩
  · exact ⟨⟨h.len, h.cap, h.max, h.bare, .inl rfl, h.byts⟩, .inl rfl⟩
  · have st : b < w.heap.size → w'.heap[b]? = w.heap[b]? := fun hlt => hx.block b hlt fun h9 => by
      rcases hb with hb | hb
      · omega
      · exact h9.2 hb.sf
    refine ⟨⟨h.len, h.cap, h.max, h.bare, ?_, h.byts⟩, .inr ⟨b, off, rfl, hb.imp id fun hu => ?_⟩⟩
    · rcases h.row with h0 | ⟨b', off', e, hlt, hc⟩
      · exact .inl h0
      · cases e
        refine .inr ⟨b, off, rfl, Nat.lt_of_lt_of_le hlt hx.size, fun i hi => ?_⟩
        have := hc i hi
        simp only [World.cell?] at this ⊢
        rw [st hlt]; exact this
    · obtain ⟨cs, hc⟩ := hu
      exact ⟨cs, hx.u8 hc⟩
theorem EnU.kx {B0 : Nat} {w w' : World} {y : En} (h : EnU B0 y w) (hx : Kx B0 w w') : EnU B0 y w' :=
  ⟨⟨(lw_kx h.ok.key h.k hx).1, (lw_kx h.ok.val h.v hx).1⟩, (lw_kx h.ok.key h.k hx).2, (lw_kx h.ok.val h.v hx).2⟩
theorem EnU.below {B0 : Nat} {w w' : World} {y : En} (h : EnU B0 y w) (hb : Below w.heap.size w w') : EnU B0 y w' := h.kx (Kx.of_below hb)
theorem own_lw {B0 : Nat} {w : World} {a : Option Addr} {n c : Nat} {zs : List Int} (h : Own w (.slice a n c) zs) : lw B0 w a zs := by
  rcases h.2 with ⟨e, h0⟩ | ⟨g, cap, cur, e, _, hg, _⟩
  · exact .inl (List.eq_nil_of_length_eq_zero h0)
  · have ea : a = some ⟨g, 0, none⟩ := by simp at e; exact e.1
    exact .inr ⟨g, 0, ea, .inr ⟨cur, hg⟩⟩
theorem En.Own.u {B0 C : Nat} {w : World} {y : En} (h : y.Own C w) : EnU B0 y w := ⟨h.ok, own_lw h.key, own_lw h.val⟩
theorem inn_lw {B0 : Nat} {Wb w : World} {a : Option Addr} {n c : Nat} {zs : List Int} (h : Inn Wb a n c zs) (hB : Wb.heap.size ≤ B0) : lw B0 w a zs := by
  rcases h.row with h | ⟨b, off, e, hlt, _⟩
  · exact .inl h
  · exact .inr ⟨b, off, e, .inl (by omega)⟩
theorem zero_u {B0 : Nat} {w : World} {y : En} (h : y.Ok w) (h0 : y.ka = none ∧ y.va = none) : EnU B0 y w := by
  refine ⟨h, .inl ?_, .inl ?_⟩
  · have h1 := (h.key.bare h0.1).1
    exact List.eq_nil_of_length_eq_zero h1
  · have h1 := (h.val.bare h0.2).1
    exact List.eq_nil_of_length_eq_zero h1
/-- the document's list, as it lies. -/
theorem Dn.ref (h : Dn B0 N X w p Lb Lr pr q) : ∃ a c ys, w.cell? ⟨pr, 0, none⟩ = some (.slice a Lr.length c) ∧ Ens w a Lr.length c ys ∧ ers ys = Lr ∧ ∀ y ∈ ys, EnU B0 y w := by
  obtain ⟨hs, O, E, v, ys, f, n0, A0, C0, Z0, n1, A1, C1, Z1, n2, A2, C2, Z2, h1, h2, h3⟩ := h
  obtain ⟨a, c, e, he⟩ := h1.r.ens
  have hl : ys.length = Lr.length := by rw [← h2, ers_len]
  rw [hl] at e he
  exact ⟨a, c, ys, e ▸ h1.r.cell, he, h2, fun y hy => (h1.r.each y hy).u⟩
/-- what the document's buffer answers. -/
def ShD (B0 : Nat) (w : World) (o : Option Ee) (r : Ending) (w' : World) : Prop := ∃ y : En, r = .returned (.tuple #[.agg #[.slice y.ka y.e.key.length y.kc, .slice y.va y.e.val.length y.vc, .bool y.e.del], .bool o.isSome]) ∧ y.e = o.getD zeE ∧ EnU B0 y w' ∧ Below w.heap.size w w'
theorem shd {xs : List En} {o : Option Ee} {r : Ending} (hu : ∀ y ∈ xs, EnU B0 y w) (h : ShC xs w o r w') : ShD B0 w o r w' := by
  obtain ⟨y, h1, h2, h3, h4, h5⟩ := h
  refine ⟨y, h1, h2, ?_, h4⟩
  rcases h5 with h5 | h5
  · exact (hu y h5).below h4
  · exact zero_u h3 h5
theorem Dn.rget_any (h : Dn B0 N X w p Lb Lr pr q) (hN : N ≤ 900) (ka : Option Addr) (kn kc : Nat) (key : List Int) (hk : Inn w ka kn kc key) :
    Calls Try.prog 27 #[.pointer (some ⟨pr, 0, none⟩), .slice ka kn kc] w (ShD B0 w (lk (Lr.foldl put []) key)) := by
  obtain ⟨a, c, ys, h1, h2, h3, h4⟩ := h.ref
  have hl := h.len
  refine (Go.Proofs.Ytgohhlngnnmknaa.rget_any h1 h2 (by omega) ka kn kc key hk (lk (Lr.foldl put []) key) ?_).mono fun r w' h => shd h4 h
  rw [lk_fold, h3]
theorem Dn.rnext_any (h : Dn B0 N X w p Lb Lr pr q) (hN : N ≤ 900) (ka : Option Addr) (kn kc : Nat) (key : List Int) (inn : Bool) (hk : Inn w ka kn kc key) :
    Calls Try.prog 29 #[.pointer (some ⟨pr, 0, none⟩), .slice ka kn kc, .bool inn] w (ShD B0 w ((Lr.foldl put []).find? (fun e => bhU e.key key inn))) := by
  obtain ⟨a, c, ys, h1, h2, h3, h4⟩ := h.ref
  have hl := h.len
  exact (Go.Proofs.Ytgohhlngnnmknaa.rnext_any h1 h2 (by omega) ka kn kc key inn hk ((Lr.foldl put []).find? (fun e => bhU e.key key inn)) (by rw [h3])).mono fun r w' h => shd h4 h
theorem Dn.rprev_any (h : Dn B0 N X w p Lb Lr pr q) (hN : N ≤ 900) (ka : Option Addr) (kn kc : Nat) (key : List Int) (inn : Bool) (hk : Inn w ka kn kc key) :
    Calls Try.prog 31 #[.pointer (some ⟨pr, 0, none⟩), .slice ka kn kc, .bool inn] w (ShD B0 w ((Lr.foldl put []).reverse.find? (fun e => bhD e.key key inn))) := by
  obtain ⟨a, c, ys, h1, h2, h3, h4⟩ := h.ref
  have hl := h.len
  exact (Go.Proofs.Ytgohhlngnnmknaa.rprev_any h1 h2 (by omega) ka kn kc key inn hk ((Lr.foldl put []).reverse.find? (fun e => bhD e.key key inn)) (by rw [h3])).mono fun r w' h => shd h4 h
end
end Go.Proofs.Ytgohhlngnnmknaa
