/- Meets: was one of some keys read? -/
import Derived.Test.YtpoanlbjhhlagaaHS
import Derived.Test.YtpoanlbjhhlagaaFL
namespace Go.Proofs.Ytpoanlbjhhlagaa
open Go.RowKit Go.Maps
set_option linter.unusedVariables false

section
variable {w w' w2 : World} {p B : Nat} {L : List Ee} {O E O' E' : Nat → Prop}
theorem Keeps.refl (h : Sx w p B L O E) : Keeps w p B L O E w := ⟨O, E, h, Go1.refl O w, fun _ h => h⟩
theorem Keeps.next (h2 : Go1 O w O' w') (h3 : ∀ k, E' k → E k) (k : Keeps w' p B L O' E' w2) : Keeps w p B L O E w2 := by
  obtain ⟨O2, E2, k1, k2, k3⟩ := k
  exact ⟨O2, E2, k1, h2.trans k2, fun k hk => h3 k (k3 k hk)⟩
theorem Keeps.below (k : Keeps w p B L O E w') (hb : Below w'.heap.size w' w2) : Keeps w p B L O E w2 := by
  obtain ⟨O2, E2, k1, k2, k3⟩ := k
  exact ⟨O2, E2, k1.below hb, k2.trans (Go1.of_below hb), k3⟩
theorem Go1.mvt {W : World} (h : Go1 O w O' w') (m : Mv O' w' W) : Mv O w W := (h.trans ⟨m, fun _ h => .inl h⟩).mv
end
/-- does one of some keys lie in a set? -/
def Mks (L : List Ee) (ks : List Ky) : Prop := ∃ x ∈ ks, U L x.key
theorem mks_at {L : List Ee} {ks : List Ky} {i : Nat} {x : Ky} (hx : ks[i]? = some x) : Mks L (ks.take (i + 1)) ↔ Mks L (ks.take i) ∨ U L x.key := by
  rw [take_at hx]
  unfold Mks
  constructor
  · rintro ⟨y, hy, h⟩
    rcases List.mem_append.1 hy with hy | hy
    · exact .inl ⟨y, hy, h⟩
    · rw [List.mem_singleton.1 hy] at h; exact .inr h
  · rintro (⟨y, hy, h⟩ | h)
    · exact ⟨y, List.mem_append.2 (.inl hy), h⟩
    · exact ⟨x, List.mem_append.2 (.inr (List.mem_singleton.2 rfl)), h⟩
set_option maxHeartbeats 3200000 in
set_option maxRecDepth 1000000 in
theorem index_any {w : World} {p B : Nat} {L : List Ee} {O E : Nat → Prop} (h : Sx w p B L O E) (hn : L.length ≤ 1000) (ka : Option Addr) (kn kc : Nat) (ks : List Ky) (hk : ∀ W, Mv O w W → Kys W ka kn kc ks) :
    Calls Try.prog 71 #[.slice ka kn kc, .func (Fn.func 12) #[.pointer (some ⟨p, 0, none⟩)] #[]] w fun e w' => (∃ i : Int, e = .returned (.int .i64 i) ∧ (0 ≤ i ↔ Mks L ks)) ∧ Keeps w p B L O E w' := by
  have HK := hide hk
  have HS := hide h
  have hlen := (hk w (Mv.refl O w)).len
  have hcap := (hk w (Mv.refl O w)).cap
  have hmax := (hk w (Mv.refl O w)).max
  have hHas := hide (fun (w1 : World) (O1 E1 : Nat → Prop) (h1 : Sx w1 p B L O1 E1) (hg : Go1 O w O1 w1) (x : Ky) (hx : x ∈ ks) => has_any h1 hn x.ka x.key.length x.kc x.key (fun W hm => (HK.out W (hg.mvt hm)).each x hx))
  clear hk h
  go_enter Try.func71, Try.ntmps71
  go_wp2
  go_loopw [8, 5] (fun vi _ wr => ∃ i : Nat, i ≤ kn ∧ vi = .int .i64 (i : Int) ∧ ¬ Mks L (ks.take i) ∧ Keeps w p B L O E wr) (fun vi _ _ => (kn : Int).toNat - (intOf vi).toNat)
  case atStart => exact ⟨0, by omega, rfl, by simp [Mks], Keeps.refl HS.out⟩
  case round =>
    obtain ⟨i, hi, rfl, hno, hkp⟩ := hrel
    obtain ⟨O1, E1, g1, g2, g3⟩ := hkp
    have G1 := hide g1
    have G2 := hide g2
    have G3 := hide g3
    have HNo := hide hno
    have HKw := hide (HK.out wr g2.mv)
    clear hno g1 g2 g3
    by_cases hin : i < kn
    · obtain ⟨x, b, off, hx, rfl, hbs, c0, hok⟩ := HKw.out.at hin
      have HSp := hide (hHas.out wr O1 E1 G1.out G2.out x (List.mem_of_getElem? hx))
      have HM := hide (mks_at (L := L) hx)
      have f1 : (i : Int) < (kn : Int) := by omega
      have f2 : (0 : Int) ≤ (i : Int) := by omega
      have e3 : IntKind.i64.wrap ((i : Int) + 1) = ((i + 1 : Nat) : Int) := by rw [IntKind.wrap_i64] <;> omega
      have e4 : IntKind.i64.wrap ((i : Int) + 1) = (i : Int) + 1 := by rw [IntKind.wrap_i64] <;> omega
      have HX := hide hx
      clear hx hok
      go_wp2_with fail
      refine HSp.out.mono ?_
      rintro e w3 ⟨⟨r, rfl, hr⟩, hk3⟩
      have HR := hide hr
      have HK3 := hide (Keeps.next G2.out G3.out hk3)
      clear hr hk3
      cases r with
      | true =>
        go_wp2
        go_ret
        have hu : U L x.key := HR.out.1 (by simp)
        exact ⟨⟨_, rfl, fun _ => ⟨x, List.mem_of_getElem? HX.out, hu⟩, fun _ => by omega⟩, HK3.out⟩
      | false =>
        go_wp2
        go_roundw
        case rel => exact ⟨i + 1, by omega, by simp, fun h => by rcases HM.out.1 h with h | h; exact HNo.out h; exact absurd (HR.out.2 h) (by simp), HK3.out⟩
        case measure => simp [intOf]; omega
    · have hie : i = kn := by omega
      subst hie
      have HNa : Hid (¬ Mks L ks) := hide (by have h := HNo.out; rwa [List.take_of_length_le (by omega)] at h)
      have f1 : ¬ (i : Int) < (i : Int) := by omega
      go_wp2
      go_ret
      exact ⟨⟨-1, rfl, fun h => absurd h (by omega), fun h => absurd h HNa.out⟩, ⟨O1, E1, G1.out, G2.out, G3.out⟩⟩
set_option maxHeartbeats 3200000 in
set_option maxRecDepth 1000000 in
theorem meets_any {w : World} {p B : Nat} {L : List Ee} {O E : Nat → Prop} (h : Sx w p B L O E) (hn : L.length ≤ 1000) (ka : Option Addr) (kn kc : Nat) (ks : List Ky) (hk : ∀ W, Mv O w W → Kys W ka kn kc ks) :
    Calls Try.prog 14 #[.pointer (some ⟨p, 0, none⟩), .slice ka kn kc] w fun e w' => (∃ b : Bool, e = .returned (.bool b) ∧ (b = true ↔ Mks L ks)) ∧ Keeps w p B L O E w' := by
  have hmf : ∀ (fn : Fn) (first cap : Array Value) (w : World), (Instr.makeFunc fn first cap).run Try.prog w = .ok (.func fn first cap) w := fun _ _ _ _ => rfl
  have HI := hide (index_any h hn ka kn kc ks hk)
  have HC : Hid (Calls Try.prog 38 #[.slice ka kn kc, .func (Fn.func 12) #[.pointer (some ⟨p, 0, none⟩)] #[]] w fun e w' => (∃ b : Bool, e = .returned (.bool b) ∧ (b = true ↔ Mks L ks)) ∧ Keeps w p B L O E w') := hide (by
    clear h hk
    go_enter Try.func38, Try.ntmps38
    go_wp2_with fail
    refine HI.out.mono ?_
    rintro e w1 ⟨⟨i, rfl, hi⟩, hkp⟩
    have HH := hide hi
    have HP := hide hkp
    clear hi hkp
    go_wp2
    go_ret
    exact ⟨⟨_, rfl, by rw [decide_eq_true_iff]; exact HH.out⟩, HP.out⟩)
  clear h hk HI
  go_enter Try.func14, Try.ntmps14
  go_wp2_with fail
  refine HC.out.mono ?_
  rintro e w1 ⟨⟨b, rfl, hb⟩, hkp⟩
  have HH := hide hb
  have HP := hide hkp
  clear hb hkp
  go_wp2
  go_ret
  exact ⟨⟨b, rfl, HH.out⟩, HP.out⟩
end Go.Proofs.Ytpoanlbjhhlagaa
