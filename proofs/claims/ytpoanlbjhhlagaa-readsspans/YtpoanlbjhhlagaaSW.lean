/- A set, what All has told of it, and blocks that stay. -/
import Derived.Test.YtpoanlbjhhlagaaTR
namespace Go.Proofs.Ytpoanlbjhhlagaa
open Go.RowKit Go.Maps
set_option linter.unusedVariables false

/-- the set p, the row that All has told, and blocks X of the law's own. -/
def Sa (w : World) (B p : Nat) (L : List Ee) (C : Nat) (a : Option Addr) (c : Nat) (ys : List En) (X : Nat → Prop) : Prop := ∃ O E, Sx w p B L O E ∧ Cl C w (.slice a ys.length c) ys ∧ (∀ k, O k → (Value.slice a ys.length c).ownBlock ≠ some k) ∧ ∀ k, X k → k < w.heap.size ∧ ¬ O k
section
variable {w w' : World} {B p C c : Nat} {L : List Ee} {a : Option Addr} {ys : List En} {X X' : Nat → Prop}
theorem Sa.size (h : Sa w B p L C a c ys X) : B ≤ w.heap.size := by
  obtain ⟨O, E, h1, h2, h3, h4⟩ := h
  have := h1.olt h1.op
  omega
theorem Sa.below (h : Sa w B p L C a c ys X) (hb : Below w.heap.size w w') (hX : ∀ k, X' k → X k ∨ (w.heap.size ≤ k ∧ k < w'.heap.size)) : Sa w' B p L C a c ys X' := by
  obtain ⟨O, E, h1, h2, h3, h4⟩ := h
  refine ⟨O, E, h1.below hb, h2.below hb, h3, fun k hk => ?_⟩
  rcases hX k hk with hx | ⟨hx, hy⟩
  · exact ⟨Nat.lt_of_lt_of_le (h4 k hx).1 hb.size, (h4 k hx).2⟩
  · exact ⟨hy, fun ho => by have := (h1.olt ho).1; omega⟩
theorem Sa.ens (h : Sa w B p L C a c ys X) : Ens w a ys.length c ys := by
  obtain ⟨O, E, h1, h2, h3, h4⟩ := h
  obtain ⟨a2, c2, e, he⟩ := h2.ens
  cases e
  exact he
theorem Sa.on (h : Sa w B p L C a c ys X) {F : FuncId} {ar : Array Value} {Q : Ending → Prop} (hc : ∀ O E, Sx w p B L O E → (∀ k, O k → B ≤ k) → (∀ W, Mv O w W → Ens W a ys.length c ys) → Calls Try.prog F ar w fun e w' => Q e ∧ ∃ O' E', Sx w' p B L O' E' ∧ Go1 O w O' w') :
    Calls Try.prog F ar w fun e w' => Q e ∧ Sa w' B p L C a c ys X ∧ Below B w w' ∧ (∀ k, X k → w'.heap[k]? = w.heap[k]?) ∧ ∀ k, a = some k → w'.heap[k.block]? = w.heap[k.block]? := by
  have hB := h.size
  obtain ⟨O, E, h1, h2, h3, h4⟩ := h
  have hcl : ∀ W, Mv O w W → Cl C W (.slice a ys.length c) ys := fun W hm => h2.of_block (fun k hk => hm.block k (h2.block hk).2.1 fun ho => h3 k ho hk) fun y hy k hk => by
    obtain ⟨c', hc'⟩ := (h2.each y hy).u8 hk
    exact hm.block k ((h2.each y hy).lt hk) fun ho => h1.not_u8 hc' ho
  refine (hc O E h1 (fun k hk => (h1.olt hk).2) fun W hm => ?_).mono ?_
  · obtain ⟨a2, c2, e, he⟩ := (hcl W hm).ens
    cases e
    exact he
  rintro e w' ⟨hq, O', E', g1, g2⟩
  refine ⟨hq, ⟨O', E', g1, hcl w' g2.mv, fun k hk e => ?_, fun k hk => ⟨Nat.lt_of_lt_of_le (h4 k hk).1 g2.mv.size, fun ho => ?_⟩⟩, g2.mv.below hB fun k hk => (h1.olt hk).2, fun k hk => g2.mv.block k (h4 k hk).1 (h4 k hk).2, fun k hk => ?_⟩
  · rcases g2.own k hk with ho | ho
    · exact h3 k ho e
    · have := (h2.block e).2.1; omega
  · rcases g2.own k ho with h | h
    · exact (h4 k hk).2 h
    · have := (h4 k hk).1; omega
  · have e : (Value.slice a ys.length c).ownBlock = some k.block := by rw [hk]; rfl
    exact g2.mv.block _ (h2.block e).2.1 fun ho => h3 _ ho e
theorem Sa.has_lo {w0 : World} (h : Sa w w0.heap.size p L C a c ys X) (hb : Below w0.heap.size w0 w) (hn : L.length ≤ 1000) {ka : Option Addr} {kn kc : Nat} {key : List Int} (hi : Inn w0 ka kn kc key) {b : Bool} (hu : b = true ↔ U L key) :
    Calls Try.prog 12 #[.pointer (some ⟨p, 0, none⟩), .slice ka kn kc] w fun e w' => e = .returned (.bool b) ∧ Sa w' w0.heap.size p L C a c ys X ∧ Below w0.heap.size w w' ∧ (∀ k, X k → w'.heap[k]? = w.heap[k]?) ∧ ∀ k, a = some k → w'.heap[k.block]? = w.heap[k.block]? := by
  have hB := h.size
  refine h.on (Q := fun e => e = .returned (.bool b)) fun O E hs ho hr => (has_any hs hn ka kn kc key fun W hm => hi.below (hb.trans (hm.below hB ho))).mono ?_
  rintro e w' ⟨⟨b', rfl, hb'⟩, O', E', h1, h2, _⟩
  exact ⟨by rw [same_bool hb' hu], O', E', h1, h2⟩
theorem Sa.meets_lo {w0 : World} (h : Sa w w0.heap.size p L C a c ys X) (hb : Below w0.heap.size w0 w) (hn : L.length ≤ 1000) {ka : Option Addr} {kn kc : Nat} {ks : List Ky} (hi : Kys w0 ka kn kc ks) {b : Bool} (hu : b = true ↔ Mks L ks) :
    Calls Try.prog 14 #[.pointer (some ⟨p, 0, none⟩), .slice ka kn kc] w fun e w' => e = .returned (.bool b) ∧ Sa w' w0.heap.size p L C a c ys X ∧ Below w0.heap.size w w' ∧ (∀ k, X k → w'.heap[k]? = w.heap[k]?) ∧ ∀ k, a = some k → w'.heap[k.block]? = w.heap[k.block]? := by
  have hB := h.size
  refine h.on (Q := fun e => e = .returned (.bool b)) fun O E hs ho hr => (meets_any hs hn ka kn kc ks fun W hm => hi.below (hb.trans (hm.below hB ho))).mono ?_
  rintro e w' ⟨⟨b', rfl, hb'⟩, O', E', h1, h2, _⟩
  exact ⟨by rw [same_bool hb' hu], O', E', h1, h2⟩
/-- a key of the row that All has told. -/
theorem Sa.has_from (h : Sa w B p L C a c ys X) (hn : L.length ≤ 1000) {y : En} (hy : y ∈ ys) {b : Bool} (hu : b = true ↔ U L y.e.key) :
    Calls Try.prog 12 #[.pointer (some ⟨p, 0, none⟩), .slice y.ka y.e.key.length y.kc] w fun e w' => e = .returned (.bool b) ∧ Sa w' B p L C a c ys X ∧ Below B w w' ∧ (∀ k, X k → w'.heap[k]? = w.heap[k]?) ∧ ∀ k, a = some k → w'.heap[k.block]? = w.heap[k.block]? := by
  refine h.on (Q := fun e => e = .returned (.bool b)) fun O E hs ho hr => (has_any hs hn _ _ _ _ fun W hm => ((hr W hm).each y hy).key).mono ?_
  rintro e w' ⟨⟨b', rfl, hb'⟩, O', E', h1, h2, _⟩
  exact ⟨by rw [same_bool hb' hu], O', E', h1, h2⟩
theorem Sa.has_to (h : Sa w B p L C a c ys X) (hn : L.length ≤ 1000) {y : En} (hy : y ∈ ys) {b : Bool} (hu : b = true ↔ U L y.e.val) :
    Calls Try.prog 12 #[.pointer (some ⟨p, 0, none⟩), .slice y.va y.e.val.length y.vc] w fun e w' => e = .returned (.bool b) ∧ Sa w' B p L C a c ys X ∧ Below B w w' ∧ (∀ k, X k → w'.heap[k]? = w.heap[k]?) ∧ ∀ k, a = some k → w'.heap[k.block]? = w.heap[k.block]? := by
  refine h.on (Q := fun e => e = .returned (.bool b)) fun O E hs ho hr => (has_any hs hn _ _ _ _ fun W hm => ((hr W hm).each y hy).val).mono ?_
  rintro e w' ⟨⟨b', rfl, hb'⟩, O', E', h1, h2, _⟩
  exact ⟨by rw [same_bool hb' hu], O', E', h1, h2⟩
/-- All of a set. -/
theorem Fs.all {pr : Nat} {Lr : List Ee} {X : Nat → Prop} (h : Fs w B p pr L Lr X) (hn : L.length ≤ 1000) : Calls Try.prog 17 #[.pointer (some ⟨p, 0, none⟩)] w fun e w' => ∃ C a c ys, e = .returned (.slice a ys.length c) ∧ Sa w' B p L C a c ys (fun _ => False) ∧ B ≤ C ∧ Apt (ers ys) ∧ (∀ k, U (ers ys) k ↔ U L k) ∧ ys.length ≤ L.length ∧ (∀ y ∈ ys, y.e.key.length ≤ 40000 ∧ y.e.val.length ≤ 40000) ∧ Below B w w' := by
  have hB := h.size
  obtain ⟨O, E, v, zs, h1, h2, h3, h4, h5⟩ := h
  refine (all_any h1 hn).mono ?_
  rintro e w' ⟨C, v', ys, rfl, hC, hcl, ha, hu, hl, hb, O', E', g1, g2, g3, g4⟩
  obtain ⟨a, c, rfl, -⟩ := hcl.ens
  exact ⟨C, a, c, ys, rfl, ⟨O', E', g1, hcl, fun k hk e => by have := g4 k (.inl hk); have := (hcl.block e).1; omega, fun k hk => hk.elim⟩, by omega, ha, hu, hl, hb, g2.mv.below hB fun k hk => (h1.olt hk).2⟩
end
end Go.Proofs.Ytpoanlbjhhlagaa
