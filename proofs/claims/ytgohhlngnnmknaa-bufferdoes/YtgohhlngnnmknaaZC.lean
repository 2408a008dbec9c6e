/- What comes out of the buffer is put into the book. -/
import Derived.Test.YtgohhlngnnmknaaZB
import Derived.Test.YtgohhlngnnmknaaDY
import Derived.Test.YtgohhlngnnmknaaDZ
namespace Go.Proofs.Ytgohhlngnnmknaa
open Go.RowKit Go.Maps
set_option linter.unusedVariables false

section
variable {B0 N : Nat} {X : Nat → Prop} {w w0 w' : World} {p : Nat} {Lb Lr : List Ee} {pr q : Nat}
theorem Dn.bchanges_any (h : Dn B0 N X w0 p Lb Lr pr q) (hb : Below w0.heap.size w0 w) (hN : N ≤ 900) (a : Option Addr) (m c : Nat) (ys : List En) (hm : ys.length = m) (hm9 : m ≤ 1000) (hc : Cl w0.heap.size w (.slice a m c) ys) (hs : ∀ y ∈ ys, Esm y.e) (M : Nat) (h0 : 4 * N + 2 * m ≤ 4 * M) (h2 : N + 1 ≤ M) :
    Calls Try.prog 10 #[.pointer (some ⟨q, 0, none⟩), .slice a m c] w fun r w' => r = .returned (.tuple #[]) ∧ Dn B0 M X w' p Lb Lr pr q ∧ Ky B0 w w' := by
  obtain ⟨hs', O, E, v, zs, f, n0, A0, C0, Z0, n1, A1, C1, Z1, n2, A2, C2, Z2, h1, g2, g3, g4, g5, g6, g7, g8, g9⟩ := h
  have h1' := h1.below hb
  have fr : ∀ k, (Bo.blks (.slice a m c) k ∨ ∃ y, y ∈ ys ∧ y.has k) → w0.heap.size ≤ k := fun k hk => by
    rcases hk with hk | ⟨y, hy, hk⟩
    · exact (hc.block hk).1
    · exact (hc.each y hy).ge hk
  have no : ∀ k, Bd.own q f n0 A0 n1 A1 n2 A2 k → ¬ w0.heap.size ≤ k := fun k hk hk2 => by have := h1.k.lt hk; omega
  refine (BdC.bookChanges_any q f n0 A0 C0 Z0 n1 A1 C1 Z1 n2 A2 C2 Z2 w h1'.k a m c ys hm (by omega) (by omega) (by omega) w0.heap.size hc hs (fun k hk hr => ?_) (fun y hy k hk hr => ?_)).mono ?_
  · exact no k (.inr (.inr (.inr (.inr (.inr (.inr hr)))))) (fr k (.inl hk))
  · exact no k (.inr (.inr (.inl hr))) (fr k (.inr ⟨y, hy, hk⟩))
  rintro r w' ⟨rfl, f', A0', C0', Z0', b1, b2, b3, b4, b5, b6⟩
  have nw : ∀ k, w0.heap.size ≤ k → ¬ O k ∧ v.ownBlock ≠ some k ∧ ¬ X k ∧ B0 ≤ k := fun k hk => ⟨fun ho => by have := h1.b.st.lt ho; omega, fun ho => by have := h1.r.row.lt ho; omega, fun ho => by have := (h1.xx k ho).1; omega, by have := h1.base; omega⟩
  obtain ⟨d1, d2⟩ := h1'.k_on b1 ⟨b3.os, b3.tape, b3.output, b3.size, fun k hk hn => b3.block k hk fun hk2 => hn (hk2.elim .inl fun hk3 => .inr (hk3.elim .inl fun hk4 => .inr (.inr hk4)))⟩ (fun j hj => by
      rcases hj with rfl | hj | hj | hj | hj | hj | hj
      · exact .inl (.inl rfl)
      · rcases b4 j hj with hj | hj
        · exact .inl (.inr (.inl hj))
        · exact .inr (.inr hj)
      · rcases b2 j hj with hj | hj
        · exact .inl (.inr (.inr (.inl hj)))
        · exact .inr (.inl (nw j (fr j (.inr hj))))
      · rw [b6] at hj; exact .inl (.inr (.inr (.inr (.inl hj))))
      · exact .inl (.inr (.inr (.inr (.inr (.inl hj)))))
      · rcases b5 j hj with hj | hj
        · exact .inl (.inr (.inr (.inr (.inr (.inr (.inl hj))))))
        · exact .inr (.inr hj)
      · rcases Bo.rft_putf n2 A2 a j hj with hj | hj
        · exact .inl (.inr (.inr (.inr (.inr (.inr (.inr hj))))))
        · exact .inr (.inl (nw j (fr j (.inl ((Bd.blks_slice a m c j).2 hj)))))) h1.z1 (fun i hi => by
      by_cases e : i = n2
      · subst e; rw [Bo.putf_same, BdC.q4s_len]; omega
      · rw [Bo.putf_other _ _ _ _ e]; exact h1.z2 i (by omega))
  exact ⟨rfl, ⟨hs', O, E, v, zs, f', _, A0', C0', Z0', n1, A1, C1, Z1, n2 + 1, _, _, _, d1, g2, by omega, by omega, by omega, by omega, by omega, g8, g9⟩, d2⟩
theorem Dn.bpairs_any (h : Dn B0 N X w0 p Lb Lr pr q) (hb : Below w0.heap.size w0 w) (hN : N ≤ 900) (a : Option Addr) (m c : Nat) (ys : List En) (hm : ys.length = m) (hm9 : m ≤ 1000) (hc : Bd.Clp w0.heap.size w (.slice a m c) ys) (hs : ∀ y ∈ ys, Esm y.e) (M : Nat) (h0 : 4 * N + 2 * m ≤ 4 * M) (h2 : N + 1 ≤ M) :
    Calls Try.prog 37 #[.pointer (some ⟨q, 0, none⟩), .slice a m c] w fun r w' => r = .returned (.tuple #[]) ∧ Dn B0 M X w' p Lb Lr pr q ∧ Ky B0 w w' := by
  obtain ⟨hs', O, E, v, zs, f, n0, A0, C0, Z0, n1, A1, C1, Z1, n2, A2, C2, Z2, h1, g2, g3, g4, g5, g6, g7, g8, g9⟩ := h
  have h1' := h1.below hb
  have fr : ∀ k, (Bo.blks (.slice a m c) k ∨ ∃ y, y ∈ ys ∧ y.has k) → w0.heap.size ≤ k := fun k hk => by
    rcases hk with hk | ⟨y, hy, hk⟩
    · exact (hc.block hk).1
    · exact (hc.each y hy).ge hk
  have no : ∀ k, Bd.own q f n0 A0 n1 A1 n2 A2 k → ¬ w0.heap.size ≤ k := fun k hk hk2 => by have := h1.k.lt hk; omega
  refine (BdP.bookPairs_any q f n0 A0 C0 Z0 n1 A1 C1 Z1 n2 A2 C2 Z2 w h1'.k a m c ys hm (by omega) (by omega) (by omega) w0.heap.size hc hs (fun k hk hr => ?_) (fun y hy k hk hr => ?_)).mono ?_
  · exact no k (.inr (.inr (.inr (.inr (.inl hr))))) (fr k (.inl hk))
  · exact no k (.inr (.inr (.inl hr))) (fr k (.inr ⟨y, hy, hk⟩))
  rintro r w' ⟨rfl, f', A0', C0', Z0', b1, b2, b3, b4, b5, b6⟩
  have nw : ∀ k, w0.heap.size ≤ k → ¬ O k ∧ v.ownBlock ≠ some k ∧ ¬ X k ∧ B0 ≤ k := fun k hk => ⟨fun ho => by have := h1.b.st.lt ho; omega, fun ho => by have := h1.r.row.lt ho; omega, fun ho => by have := (h1.xx k ho).1; omega, by have := h1.base; omega⟩
  obtain ⟨d1, d2⟩ := h1'.k_on b1 ⟨b3.os, b3.tape, b3.output, b3.size, fun k hk hn => b3.block k hk fun hk2 => hn (hk2.elim .inl fun hk3 => .inr (hk3.elim .inl fun hk4 => .inr (.inl hk4)))⟩ (fun j hj => by
      rcases hj with rfl | hj | hj | hj | hj | hj | hj
      · exact .inl (.inl rfl)
      · rcases b4 j hj with hj | hj
        · exact .inl (.inr (.inl hj))
        · exact .inr (.inr hj)
      · rcases b2 j hj with hj | hj
        · exact .inl (.inr (.inr (.inl hj)))
        · exact .inr (.inl (nw j (fr j (.inr hj))))
      · rcases b5 j hj with hj | hj
        · exact .inl (.inr (.inr (.inr (.inl hj))))
        · exact .inr (.inr hj)
      · rcases Bo.rft_putf n1 A1 a j hj with hj | hj
        · exact .inl (.inr (.inr (.inr (.inr (.inl hj)))))
        · exact .inr (.inl (nw j (fr j (.inl ((Bd.blks_slice a m c j).2 hj)))))
      · rw [b6] at hj; exact .inl (.inr (.inr (.inr (.inr (.inr (.inl hj))))))
      · exact .inl (.inr (.inr (.inr (.inr (.inr (.inr hj))))))) (fun i hi => by
      by_cases e : i = n1
      · subst e; rw [Bo.putf_same, BdP.q4s_len]; omega
      · rw [Bo.putf_other _ _ _ _ e]; exact h1.z1 i (by omega)) h1.z2
  exact ⟨rfl, ⟨hs', O, E, v, zs, f', _, A0', C0', Z0', n1 + 1, _, _, _, n2, A2, C2, Z2, d1, g2, by omega, by omega, by omega, by omega, by omega, g8, g9⟩, d2⟩
end
/-- one change, newly laid as a row. -/
theorem cl_box {w : World} {C : Nat} {y : En} (hC : C ≤ w.heap.size) (hy : y.Own C w) : Cl C (w.alloc (.cells #[.slice y.ka y.e.key.length y.kc, .slice y.va y.e.val.length y.vc, .bool y.e.del] 85)) (.slice (some ⟨w.heap.size, 0, none⟩) 1 1) [y] := by
  refine ⟨?_, fun z hz => ?_, fun i j yi yj k h1 h2 _ _ => ?_⟩
  · refine ⟨by simp [rowc_len], .inr ⟨w.heap.size, 1, _, rfl, hC, heap_alloc_new w _, Nat.le_refl _, by decide, rfl, by simp [rowc, En.cells]⟩⟩
  · rw [List.mem_singleton.1 hz]
    exact hy.move fun k _ hk => Below.heap_alloc w _ k hk
  · have := (List.getElem?_eq_some_iff.1 h1).1
    have := (List.getElem?_eq_some_iff.1 h2).1
    simp at *; omega
/-- two pairs, newly laid as a row. -/
theorem clp_box {w : World} {C : Nat} {y z : En} (hC : C ≤ w.heap.size) (hy : y.Own C w) (hz : z.Own C w) (ha : ∀ k, y.has k → ¬ z.has k) : Bd.Clp C (w.alloc (.cells #[.slice y.ka y.e.key.length y.kc, .slice y.va y.e.val.length y.vc, .slice z.ka z.e.key.length z.kc, .slice z.va z.e.val.length z.vc] 74)) (.slice (some ⟨w.heap.size, 0, none⟩) 2 2) [y, z] := by
  refine ⟨?_, fun u hu => ?_, fun i j yi yj k h1 h2 h3 h4 => ?_⟩
  · refine ⟨by simp [prc_len], .inr ⟨w.heap.size, 2, _, rfl, hC, heap_alloc_new w _, Nat.le_refl _, by decide, rfl, by simp [prc, pcl]⟩⟩
  · simp only [List.mem_cons, List.not_mem_nil, or_false] at hu
    rcases hu with rfl | rfl
    · exact hy.move fun k _ hk => Below.heap_alloc w _ k hk
    · exact hz.move fun k _ hk => Below.heap_alloc w _ k hk
  · have hi := (List.getElem?_eq_some_iff.1 h1).1
    have hj := (List.getElem?_eq_some_iff.1 h2).1
    simp only [List.length_cons, List.length_nil] at hi hj
    have hi2 : i = 0 ∨ i = 1 := by omega
    have hj2 : j = 0 ∨ j = 1 := by omega
    rcases hi2 with rfl | rfl <;> rcases hj2 with rfl | rfl <;> simp at h1 h2 <;> subst h1 <;> subst h2
    · rfl
    · exact absurd h4 (ha k h3)
    · exact absurd h3 (ha k h4)
    · rfl
end Go.Proofs.Ytgohhlngnnmknaa
