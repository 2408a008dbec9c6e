/- Two sets side by side; what the walk of ReadsTurns wants. -/
import Derived.Test.YtpoanlbjhhlagaaKN
import Derived.Test.YtpoanlbjhhlagaaBG
import Derived.Test.YtpoanlbjhhlagaaMU
namespace Go.Proofs.Ytpoanlbjhhlagaa
open Go.RowKit Go.Maps
set_option linter.unusedVariables false

def kspan (x : Ky) : Ee := ⟨x.key, x.key ++ [0], false⟩
def Pk (ks : List Ky) (k : List Int) : Prop := ∃ x ∈ ks, inS (kspan x) k
def Ps (xs : List En) (k : List Int) : Prop := ∃ x ∈ xs, U (sps x.e) k
theorem Pk.cons {x : Ky} {ks : List Ky} {k : List Int} : Pk (x :: ks) k ↔ inS (kspan x) k ∨ Pk ks k := by simp [Pk]
theorem Ps.cons {x : En} {xs : List En} {k : List Int} : Ps (x :: xs) k ↔ U (sps x.e) k ∨ Ps xs k := by simp [Ps]
theorem U_one {x : Ee} {k : List Int} : U [x] k ↔ inS x k := by simp [U]
theorem kof_U {ks : List Ky} {i : Nat} {k : List Int} : U (kof ks i) k ↔ ∃ x, ks[i]? = some x ∧ inS (kspan x) k := by
  unfold kof
  cases ks[i]? with
  | none => simp [U]
  | some x => simp [U, kspan]
theorem sof_U {xs : List En} {i : Nat} {k : List Int} : U (sof xs i) k ↔ ∃ x, xs[i]? = some x ∧ U (sps x.e) k := by
  unfold sof
  cases xs[i]? with
  | none => simp [U]
  | some x => simp
theorem flk_U (ks : List Ky) (xs : List En) (k : List Int) : ∀ i, U (flk ks xs i) k ↔ (∃ m x, m < i ∧ xs[m]? = some x ∧ U (sps x.e) k) ∨ ∃ m x, m < i ∧ ks[m]? = some x ∧ inS (kspan x) k
  | 0 => by simp [flk, U]
  | i + 1 => by
    rw [flk, U_app, U_app, flk_U ks xs k i, kof_U, sof_U]
    constructor
    · rintro (((⟨m, x, h1, h2⟩ | ⟨m, x, h1, h2⟩) | ⟨x, h⟩) | ⟨x, h⟩)
      · exact .inl ⟨m, x, by omega, h2⟩
      · exact .inr ⟨m, x, by omega, h2⟩
      · exact .inr ⟨i, x, by omega, h⟩
      · exact .inl ⟨i, x, by omega, h⟩
    · rintro (⟨m, x, h1, h2⟩ | ⟨m, x, h1, h2⟩)
      · by_cases e : m = i
        · subst e; exact .inr ⟨x, h2⟩
        · exact .inl (.inl (.inl ⟨m, x, by omega, h2⟩))
      · by_cases e : m = i
        · subst e; exact .inl (.inr ⟨x, h2⟩)
        · exact .inl (.inl (.inr ⟨m, x, by omega, h2⟩))
theorem flk_all {ks : List Ky} {xs : List En} {i : Nat} (h1 : ks.length ≤ i) (h2 : xs.length ≤ i) (k : List Int) : U (flk ks xs i) k ↔ Ps xs k ∨ Pk ks k := by
  rw [flk_U]
  constructor
  · rintro (⟨m, x, _, h, h3⟩ | ⟨m, x, _, h, h3⟩)
    · exact .inl ⟨x, List.mem_of_getElem? h, h3⟩
    · exact .inr ⟨x, List.mem_of_getElem? h, h3⟩
  · rintro (⟨x, h, h3⟩ | ⟨x, h, h3⟩)
    · obtain ⟨m, hm⟩ := List.getElem?_of_mem h
      have := (List.getElem?_eq_some_iff.1 hm).1
      exact .inl ⟨m, x, by omega, hm, h3⟩
    · obtain ⟨m, hm⟩ := List.getElem?_of_mem h
      have := (List.getElem?_eq_some_iff.1 hm).1
      exact .inr ⟨m, x, by omega, hm, h3⟩
/-- two sets. -/
def Tw (w : World) (B p q : Nat) (Ls Lt : List Ee) : Prop := ∃ O E O2 E2, Sx w p B Ls O E ∧ Sx w q B Lt O2 E2 ∧ ∀ k, O k → ¬ O2 k
section
variable {w w' : World} {B p q : Nat} {Ls Lt : List Ee}
theorem Tw.size (h : Tw w B p q Ls Lt) : B ≤ w.heap.size := by
  obtain ⟨O, E, O2, E2, h1, h2, h3⟩ := h
  have := h1.olt h1.op
  omega
theorem Tw.below (h : Tw w B p q Ls Lt) (hb : Below w.heap.size w w') : Tw w' B p q Ls Lt := by
  obtain ⟨O, E, O2, E2, h1, h2, h3⟩ := h
  exact ⟨O, E, O2, E2, h1.below hb, h2.below hb, h3⟩
theorem Tw.new {pr : Nat} {Lr : List Ee} {X : Nat → Prop} (h : Fs w B p pr Ls Lr X) : Tw (w.alloc (.cells #[.slice none 0 0, .int .i64 0] 79)) B p w.heap.size Ls [] := by
  have hB := h.size
  obtain ⟨O, E, v, ys, h1, h2, h3, h4, h5⟩ := h
  exact ⟨O, E, _, _, h1.below (below_alloc w _), Sx.new w B hB, fun k hk e => by have := (h1.olt hk).1; omega⟩
theorem Tw.t_on (h : Tw w B p q Ls Lt) {Lt' : List Ee} {F : FuncId} {ar : Array Value} {Q : Ending → Prop} (hc : ∀ O E, Sx w q B Lt O E → Calls Try.prog F ar w fun e w' => Q e ∧ ∃ O' E', Sx w' q B Lt' O' E' ∧ Go1 O w O' w' ∧ ∀ k, E' k → E k ∨ w.heap.size ≤ k) :
    Calls Try.prog F ar w fun e w' => Q e ∧ Tw w' B p q Ls Lt' ∧ Below B w w' := by
  obtain ⟨O, E, O2, E2, h1, h2, h3⟩ := h
  refine (hc O2 E2 h2).mono ?_
  rintro e w' ⟨hq, O', E', g1, g2, g3⟩
  have hp := h2.olt h2.op
  refine ⟨hq, ⟨O, E, O', E', h1.of_block fun k hk => ?_, g1, fun k hk e => ?_⟩, g2.mv.below (by omega) fun k hk => (h2.olt hk).2⟩
  · rcases hk with hk | hk
    · exact g2.mv.block k (h1.olt hk).1 (h3 k hk)
    · obtain ⟨a1, _, c, hc'⟩ := h1.elt hk
      exact g2.mv.block k a1 fun ho => h2.not_u8 hc' ho
  · rcases g2.own k e with ho | ho
    · exact h3 k hk ho
    · have := (h1.olt hk).1; omega
/-- All of the one, then All of the other. -/
def Ta (w : World) (B q : Nat) (Ls Lt : List Ee) (a : Option Addr) (c : Nat) (ys : List En) : Prop := ∃ C O2 E2, Sx w q B Lt O2 E2 ∧ Cl C w (.slice a ys.length c) ys ∧ Apt (ers ys) ∧ (∀ k, U (ers ys) k ↔ U Ls k) ∧ ys.length ≤ Ls.length ∧ ∀ k, O2 k → k < C
theorem Tw.all_s (h : Tw w B p q Ls Lt) (hn : Ls.length ≤ 1000) : Calls Try.prog 17 #[.pointer (some ⟨p, 0, none⟩)] w fun e w' => ∃ a c ys, e = .returned (.slice a ys.length c) ∧ Ta w' B q Ls Lt a c ys ∧ Below B w w' := by
  obtain ⟨O, E, O2, E2, h1, h2, h3⟩ := h
  refine (all_any h1 hn).mono ?_
  rintro e w' ⟨C, v, ys, rfl, hC, hcl, ha, hu, hl, -, O', E', g1, g2, g3, g4⟩
  have hp := h1.olt h1.op
  obtain ⟨a, c, rfl, -⟩ := hcl.ens
  refine ⟨a, c, ys, rfl, ⟨C, O2, E2, h2.of_block fun k hk => ?_, hcl, ha, hu, hl, fun k hk => ?_⟩, g2.mv.below (by omega) fun k hk => (h1.olt hk).2⟩
  · rcases hk with hk | hk
    · exact g2.mv.block k (h2.olt hk).1 fun ho => h3 k ho hk
    · obtain ⟨a1, _, c', hc'⟩ := h2.elt hk
      exact g2.mv.block k a1 fun ho => h1.not_u8 hc' ho
  · have := (h2.olt hk).1; omega
theorem Ta.all_t {a : Option Addr} {c : Nat} {ys : List En} (h : Ta w B q Ls Lt a c ys) (hn : Lt.length ≤ 1000) (hu : ∀ k, U Ls k ↔ U Lt k) : Calls Try.prog 17 #[.pointer (some ⟨q, 0, none⟩)] w fun e w' => ∃ a' c' zs, e = .returned (.slice a' zs.length c') ∧ Ens w' a ys.length c ys ∧ Ens w' a' zs.length c' zs ∧ ers ys = ers zs ∧ Below B w w' := by
  obtain ⟨C, O2, E2, h1, h2, h3, h4, h5, h6⟩ := h
  refine (all_any h1 hn).mono ?_
  rintro e w' ⟨C', v, zs, rfl, hC, hcl, ha, hu', hl, -, O', E', g1, g2, g3, g4⟩
  have hp := h1.olt h1.op
  obtain ⟨a', c', rfl, hens⟩ := hcl.ens
  have h2' : Cl C w' (.slice a ys.length c) ys := h2.of_block (fun k hk => g2.mv.block k (h2.block hk).2.1 fun ho => by have := h6 k ho; have := (h2.block hk).1; omega) fun y hy k hk => g2.mv.block k ((h2.each y hy).lt hk) fun ho => by have := h6 k ho; have := (h2.each y hy).ge hk; omega
  refine ⟨a', c', zs, rfl, ?_, hens, apt_uniq h3 ha fun k => by rw [h4, hu', hu], g2.mv.below (by omega) fun k hk => (h1.olt hk).2⟩
  obtain ⟨a2, c2, e, he⟩ := h2'.ens
  cases e
  exact he
end
end Go.Proofs.Ytpoanlbjhhlagaa
