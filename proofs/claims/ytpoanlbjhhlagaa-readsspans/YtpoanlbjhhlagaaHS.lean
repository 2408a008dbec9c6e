/- Has: was a key read? -/
import Derived.Test.YtpoanlbjhhlagaaST
namespace Go.Proofs.Ytpoanlbjhhlagaa
open Go.RowKit Go.Maps
set_option linter.unusedVariables false

theorem has_end {xs : List En} {i : Nat} {key : List Int} (h : Apt (ers xs)) (ha : At (pge key) xs i) :
    (ther xs i key = true → U (ers xs) key) ∧ (ther xs i key = false → i = 0 → ¬ U (ers xs) key) ∧ ∀ x, ther xs i key = false → 0 < i → xs[i - 1]? = some x → ((x.e.del || decide (0 < ordI x.e.val key)) = true ↔ U (ers xs) key) := by
  obtain ⟨h1, h2, h3⟩ := ha
  have e1 : ∀ j : Nat, (ers xs)[j]? = (xs[j]?).map En.e := fun j => by simp [ers]
  have hi := has_is (m := i) (k := key) h (by rw [ers_len]; exact h1) (fun x h0 hx => by
    rw [e1] at hx
    obtain ⟨y, hy, rfl⟩ := Option.map_eq_some_iff.1 hx
    have := h2 y h0 hy
    simp [pge] at this
    exact this) (fun x hx => by
    rw [e1] at hx
    obtain ⟨y, hy, rfl⟩ := Option.map_eq_some_iff.1 hx
    have := h3 y hy
    simpa [pge] using this)
  have ht : ther xs i key = true ↔ ∃ x, (ers xs)[i]? = some x ∧ x.key = key := by
    unfold ther
    rw [e1]
    cases hx : xs[i]? with
    | none => simp
    | some x => simp
  refine ⟨fun h => hi.2 (.inl (ht.1 h)), fun hf h0 hu => ?_, fun x hf h0 hx => ?_⟩
  · rcases hi.1 hu with h4 | ⟨x, h5, _⟩
    · rw [ht.2 h4] at hf; cases hf
    · omega
  · have hx' : (ers xs)[i - 1]? = some x.e := by rw [e1, hx]; rfl
    constructor
    · intro hb
      refine hi.2 (.inr ⟨x.e, h0, hx', ?_⟩)
      simpa using hb
    · intro hu
      rcases hi.1 hu with h4 | ⟨y, _, h5, h6⟩
      · rw [ht.2 h4] at hf; cases hf
      · rw [hx'] at h5; cases h5
        simpa using h6
/-- what a call leaves of a set. -/
def Keeps (w : World) (p B : Nat) (L : List Ee) (O E : Nat → Prop) (w' : World) : Prop := ∃ O' E', Sx w' p B L O' E' ∧ Go1 O w O' w' ∧ ∀ k, E' k → E k
set_option maxHeartbeats 3200000 in
set_option maxRecDepth 1000000 in
theorem has_any {w : World} {p B : Nat} {L : List Ee} {O E : Nat → Prop} (h : Sx w p B L O E) (hn : L.length ≤ 1000) (ka : Option Addr) (kn kc : Nat) (key : List Int) (hk : ∀ W, Mv O w W → Inn W ka kn kc key) :
    Calls Try.prog 12 #[.pointer (some ⟨p, 0, none⟩), .slice ka kn kc] w fun e w' => (∃ b : Bool, e = .returned (.bool b) ∧ (b = true ↔ U L key)) ∧ Keeps w p B L O E w' := by
  have HS := hide (settle_any h hn)
  have HK := hide hk
  clear h hk
  go_enter Try.func12, Try.ntmps12
  go_wp2_with fail
  refine HS.out.mono ?_
  rintro e w2 ⟨rfl, O', E', hss, hgo, hE⟩
  have HSS := hide hss
  have HGO := hide hgo
  have HE := hide hE
  have HK2 := hide (HK.out w2 hgo.mv)
  obtain ⟨sv, xs, h1, h2, h3, h6, h7, h8, h9⟩ := hss
  obtain ⟨a, c, rfl, hens⟩ := h1.ens
  obtain ⟨s0, s1, f0⟩ := cells_two h1.blk
  obtain ⟨n, hnx⟩ : ∃ n, n = xs.length := ⟨_, rfl⟩
  have HP := hide h1.blk
  have HN := hide hens
  have HU := hide h2
  have HA := hide h3
  rw [← hnx] at s0 HN h6 HP
  have HF := hide (search_any ka kn kc key a n c xs w2 HK2.out HN.out (by omega))
  have HNX := hide hnx
  clear hgo hE h1 h2 h3 h7 h8 h9 hens hnx s1 f0
  go_wp2_with fail
  refine HF.out.mono ?_
  rintro e w3 ⟨i, rfl, hat, hb3⟩
  have HEn := hide (has_end HA.out hat)
  have hil := hat.1
  rw [← HNX.out] at hil
  have HB3 := hide hb3
  have HKp : Hid (∀ W, Below w3.heap.size w3 W → Keeps w p B L O E W) := hide fun W hW => ⟨O', E', (HSS.out.below (hb3.trans (hW.mono hb3.size))).sx, HGO.out.trans (Go1.of_below (hb3.trans (hW.mono hb3.size))), HE.out⟩
  have hp3 := (hb3.block p (lt_of_block HP.out)).trans HP.out
  obtain ⟨r0, r1, -⟩ := cells_two hp3
  clear hat hb3 hp3
  rcases Bool.eq_false_or_eq_true (ther xs i key) with ht | ht
  · have hu := (HU.out key).1 (HEn.out.1 ht)
    have HUu := hide hu
    rw [ht]
    clear hu
    go_wp2
    go_ret
    exact ⟨⟨true, rfl, fun _ => HUu.out, fun _ => rfl⟩, HKp.out _ (Below.refl _ _)⟩
  · by_cases h0 : i = 0
    · have hu : ¬ U L key := fun hu => HEn.out.2.1 ht h0 ((HU.out key).2 hu)
      have HUu := hide hu
      subst h0
      rw [ht]
      clear hu
      go_wp2
      go_ret
      exact ⟨⟨false, rfl, fun h => (by cases h), fun h => absurd h HUu.out⟩, HKp.out _ (Below.refl _ _)⟩
    · have d1 : (0 : Int) < (i : Int) := by omega
      have hlt : i - 1 < n := by omega
      obtain ⟨x, hx, hok⟩ := (HN.out.below HB3.out).at hlt
      obtain ⟨b, off, rfl, hbs, q0, q1, q2⟩ := (HN.out.below HB3.out).cells hx
      have HD := hide (ends_any x ka kn kc key w3 hok (HK2.out.below HB3.out))
      have hres := HEn.out.2.2 x ht (by omega) hx
      obtain ⟨rb, hrb⟩ : ∃ rb, rb = (x.e.del || decide (0 < ordI x.e.val key)) := ⟨_, rfl⟩
      rw [← hrb] at HD hres
      have HRes : Hid (rb = true ↔ U L key) := hide (hres.trans (HU.out key))
      obtain ⟨I, hI⟩ : ∃ I, I = i - 1 := ⟨_, rfl⟩
      have hI2 : (i : Int) - 1 = (I : Int) := by omega
      have hI3 : IntKind.i64.wrap ((i : Int) - 1) = (I : Int) := by rw [IntKind.wrap_i64] <;> omega
      rw [← hI] at q0 q1 q2 hlt
      have d2 : (0 : Int) ≤ (I : Int) := by omega
      have d3 : (I : Int) < (n : Int) := by omega
      rw [ht]
      clear hx hok hres hI hrb
      go_wp2_with (go_at_call 36; refine HD.out.mono ?_; rintro e w4 ⟨rfl, hb4⟩; have HB4 := hide hb4; clear hb4)
      go_ret
      exact ⟨⟨rb, rfl, HRes.out⟩, HKp.out _ HB4.out⟩
end Go.Proofs.Ytpoanlbjhhlagaa
