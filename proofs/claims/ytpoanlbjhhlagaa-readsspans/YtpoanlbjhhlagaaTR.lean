/- Three sets side by side. -/
import Derived.Test.YtpoanlbjhhlagaaIX
import Derived.Test.YtpoanlbjhhlagaaTW
namespace Go.Proofs.Ytpoanlbjhhlagaa
open Go.RowKit Go.Maps
set_option linter.unusedVariables false

/-- a set that lies from B on. -/
def S1 (w : World) (B p : Nat) (L : List Ee) (O : Nat → Prop) : Prop := ∃ E B', B ≤ B' ∧ Sx w p B' L O E
section
variable {w w' : World} {B p q r : Nat} {L La Lb Lc : List Ee} {O O2 O2' : Nat → Prop}
theorem S1.olt (h : S1 w B p L O) {k : Nat} (hk : O k) : k < w.heap.size ∧ B ≤ k := by
  obtain ⟨E, B', hB, h⟩ := h
  have := h.olt hk
  exact ⟨this.1, by omega⟩
theorem S1.op (h : S1 w B p L O) : O p := by
  obtain ⟨E, B', hB, h⟩ := h
  exact h.op
theorem S1.below (h : S1 w B p L O) (hb : Below w.heap.size w w') : S1 w' B p L O := by
  obtain ⟨E, B', hB, h⟩ := h
  exact ⟨E, B', hB, h.below hb⟩
theorem S1.stay (h : S1 w B p L O) (h2 : S1 w B q La O2) (hm : Mv O2 w w') (hd : ∀ k, O k → ¬ O2 k) : S1 w' B p L O := by
  obtain ⟨E, B', hB, h⟩ := h
  obtain ⟨E2, B2, _, h2⟩ := h2
  refine ⟨E, B', hB, h.of_block fun k hk => ?_⟩
  rcases hk with hk | hk
  · exact hm.block k (h.olt hk).1 (hd k hk)
  · obtain ⟨a1, _, c', hc'⟩ := h.elt hk
    exact hm.block k a1 fun ho => h2.not_u8 hc' ho
def Tr (w : World) (B p q r : Nat) (La Lb Lc : List Ee) : Prop := ∃ Oa Ob Oc, S1 w B p La Oa ∧ S1 w B q Lb Ob ∧ S1 w B r Lc Oc ∧ (∀ k, Oa k → ¬ Ob k) ∧ (∀ k, Ob k → ¬ Oc k) ∧ ∀ k, Oc k → ¬ Oa k
theorem Tr.rot (h : Tr w B p q r La Lb Lc) : Tr w B q r p Lb Lc La := by
  obtain ⟨Oa, Ob, Oc, h1, h2, h3, h4, h5, h6⟩ := h
  exact ⟨Ob, Oc, Oa, h2, h3, h1, h5, h6, h4⟩
theorem Tr.size (h : Tr w B p q r La Lb Lc) : B ≤ w.heap.size := by
  obtain ⟨Oa, Ob, Oc, h1, h2, h3, h4, h5, h6⟩ := h
  have := h1.olt h1.op
  omega
theorem Tr.below (h : Tr w B p q r La Lb Lc) (hb : Below w.heap.size w w') : Tr w' B p q r La Lb Lc := by
  obtain ⟨Oa, Ob, Oc, h1, h2, h3, h4, h5, h6⟩ := h
  exact ⟨Oa, Ob, Oc, h1.below hb, h2.below hb, h3.below hb, h4, h5, h6⟩
theorem Tr.drew (h : Tr w B p q r La Lb Lc) : Tr w.drew B p q r La Lb Lc := h.below (Below.refl _ _).drew
theorem Fs.s1 {X : Nat → Prop} {Lr : List Ee} {pr : Nat} (h : Fs w B p pr L Lr X) : ∃ O, S1 w B p L O := by
  obtain ⟨O, E, v, ys, h1, h2, h3, h4, h5⟩ := h
  exact ⟨O, E, B, Nat.le_refl _, h1⟩
theorem S1.lower {B0 : Nat} (h : S1 w B p L O) (hB : B0 ≤ B) : S1 w B0 p L O := by
  obtain ⟨E, B', hB', h⟩ := h
  exact ⟨E, B', by omega, h⟩
theorem Tr.make {w6 w7 w8 : World} {pr qr rr : Nat} {L1 L2 L3 : List Ee} {X1 X2 X3 : Nat → Prop} (ha : Fs w6 B p pr La L1 X1) (hb : Fs w7 w6.heap.size q qr Lb L2 X2) (hc : Fs w8 w7.heap.size r rr Lc L3 X3) (b7 : Below w6.heap.size w6 w7) (b8 : Below w7.heap.size w7 w8) : Tr w8 B p q r La Lb Lc := by
  have hB := ha.size
  have h67 := b7.size
  obtain ⟨Oa, ha⟩ := ha.s1
  obtain ⟨Ob, hb⟩ := hb.s1
  obtain ⟨Oc, hc⟩ := hc.s1
  refine ⟨Oa, Ob, Oc, ha.below (b7.trans (b8.mono h67)), (hb.below b8).lower hB, hc.lower (by omega), fun k h1 h2 => ?_, fun k h1 h2 => ?_, fun k h1 h2 => ?_⟩
  · have := (ha.olt h1).1; have := (hb.olt h2).2; omega
  · have := (hb.olt h1).1; have := (hc.olt h2).2; omega
  · have := (hc.olt h1).2; have := (ha.olt h2).1; omega
theorem Tr.c_on (h : Tr w B p q r La Lb Lc) {Lc' : List Ee} {F : FuncId} {ar : Array Value} {Q : Ending → Prop} (hc : ∀ B' O E, (∀ k, O k → B ≤ k) → Sx w r B' Lc O E → Calls Try.prog F ar w fun e w' => Q e ∧ ∃ O' E', Sx w' r B' Lc' O' E' ∧ Go1 O w O' w') :
    Calls Try.prog F ar w fun e w' => Q e ∧ Tr w' B p q r La Lb Lc' ∧ Below B w w' := by
  have hB := h.size
  obtain ⟨Oa, Ob, Oc, h1, h2, h3, h4, h5, h6⟩ := h
  have h3' := h3
  obtain ⟨E, B', hB', h3x⟩ := h3
  refine (hc B' Oc E (fun k hk => (h3'.olt hk).2) h3x).mono ?_
  rintro e w' ⟨hq, O', E', g1, g2⟩
  refine ⟨hq, ⟨Oa, Ob, O', h1.stay h3' g2.mv fun k hk ho => h6 k ho hk, h2.stay h3' g2.mv h5, ⟨E', B', hB', g1⟩, h4, fun k hk ho => ?_, fun k ho hk => ?_⟩, g2.mv.below hB fun k hk => (h3'.olt hk).2⟩
  · rcases g2.own k ho with h | h
    · exact h5 k hk h
    · have := (h2.olt hk).1; omega
  · rcases g2.own k ho with h | h
    · exact h6 k h hk
    · have := (h1.olt hk).1; omega
theorem same_bool {a b : Bool} {P : Prop} (h : a = true ↔ P) (k : b = true ↔ P) : a = b := by
  cases a <;> cases b <;> simp_all
theorem Tr.span_c (h : Tr w B p q r La Lb Lc) (hn : Lc.length ≤ 900) (x : En) (hx : x.Ok w) (hl : x.e.key.length ≤ 30000 ∧ x.e.val.length ≤ 30000) :
    Calls Try.prog 23 #[.pointer (some ⟨r, 0, none⟩), .agg #[.slice x.ka x.e.key.length x.kc, .slice x.va x.e.val.length x.vc, .bool x.e.del]] w fun e w' => e = .returned (.tuple #[]) ∧ Tr w' B p q r La Lb (Lc ++ sps x.e) ∧ Below B w w' :=
  h.c_on (Q := fun e => e = .returned (.tuple #[])) fun B' O E _ hs => (span_any hs hn x hx hl).mono fun e w' ⟨he, O', E', h1, h2, _⟩ => ⟨he, O', E', h1, h2⟩
theorem Tr.has_c {w0 : World} (h : Tr w w0.heap.size p q r La Lb Lc) (hb : Below w0.heap.size w0 w) (hn : Lc.length ≤ 1000) {ka : Option Addr} {kn kc : Nat} {key : List Int} (hi : Inn w0 ka kn kc key) {b : Bool} (hu : b = true ↔ U Lc key) :
    Calls Try.prog 12 #[.pointer (some ⟨r, 0, none⟩), .slice ka kn kc] w fun e w' => e = .returned (.bool b) ∧ Tr w' w0.heap.size p q r La Lb Lc ∧ Below w0.heap.size w w' := by
  have hB := h.size
  refine h.c_on (Q := fun e => e = .returned (.bool b)) fun B' O E ho hs => (has_any hs hn ka kn kc key fun W hm => hi.below (hb.trans (hm.below hB ho))).mono ?_
  rintro e w' ⟨⟨b', rfl, hb'⟩, O', E', h1, h2, _⟩
  exact ⟨by rw [same_bool hb' hu], O', E', h1, h2⟩
theorem Tr.meets_c {w0 : World} (h : Tr w w0.heap.size p q r La Lb Lc) (hb : Below w0.heap.size w0 w) (hn : Lc.length ≤ 1000) {ka : Option Addr} {kn kc : Nat} {ks : List Ky} (hi : Kys w0 ka kn kc ks) {b : Bool} (hu : b = true ↔ Mks Lc ks) :
    Calls Try.prog 14 #[.pointer (some ⟨r, 0, none⟩), .slice ka kn kc] w fun e w' => e = .returned (.bool b) ∧ Tr w' w0.heap.size p q r La Lb Lc ∧ Below w0.heap.size w w' := by
  have hB := h.size
  refine h.c_on (Q := fun e => e = .returned (.bool b)) fun B' O E ho hs => (meets_any hs hn ka kn kc ks fun W hm => hi.below (hb.trans (hm.below hB ho))).mono ?_
  rintro e w' ⟨⟨b', rfl, hb'⟩, O', E', h1, h2, _⟩
  exact ⟨by rw [same_bool hb' hu], O', E', h1, h2⟩
end
end Go.Proofs.Ytpoanlbjhhlagaa
