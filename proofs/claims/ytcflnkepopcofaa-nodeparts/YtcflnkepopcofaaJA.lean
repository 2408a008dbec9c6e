/- The key of one entry of a list is written over. -/
import Derived.Test.YtcflnkepopcofaaHE
namespace Go.Proofs.Ytcflnkepopcofaa
open Go.RowKit
set_option linter.unusedVariables false

/-- an entry with another key. -/
def En.rekey (z : En) (ka : Option Addr) (kc : Nat) (key : List Int) : En := ⟨⟨key, z.e.val, z.e.page, z.e.size⟩, ka, kc, z.va, z.vc⟩
theorem rowc_rekey (ys : List En) (i : Nat) (z : En) (hz : ys[i]? = some z) (ka : Option Addr) (kc : Nat) (key : List Int) : (rowc ys).set (i * 4) (.slice ka key.length kc) = rowc (ys.set i (z.rekey ka kc key)) := by
  induction ys generalizing i with
  | nil => simp at hz
  | cons y ys ih =>
    cases i with
    | zero =>
      simp at hz
      subst hz
      simp [rowc, En.cells, En.rekey]
    | succ i =>
      have e : (i + 1) * 4 = i * 4 + 4 := by omega
      have h := ih i (by simpa using hz)
      have h1 : rowc (y :: ys) = y.cells ++ rowc ys := by simp [rowc]
      have h2 : rowc ((y :: ys).set (i + 1) (z.rekey ka kc key)) = y.cells ++ rowc (ys.set i (z.rekey ka kc key)) := by simp [rowc]
      rw [h1, h2, ← h, e]
      simp [En.cells]
theorem row_set {B : Nat} {w : World} {g n c j : Nat} {cs : List Value} (h : w.ownsRow B 28 4 (.slice (some ⟨g, 0, none⟩) n c) n cs) (v : Value) : (w.setCell ⟨g, j, none⟩ v).ownsRow B 28 4 (.slice (some ⟨g, 0, none⟩) n c) n (cs.set j v) := by
  rcases h.2 with ⟨e, _⟩ | ⟨g', cap, cur, e, hb, hg, hn, hm, hcs, htake⟩
  · cases e
  · cases e
    refine ⟨by rw [List.length_set]; exact h.1, .inr ⟨g, c, _, rfl, hb, heap_setCell_same w g j _ 28 _ hg, hn, hm, by simpa using hcs, ?_⟩⟩
    rw [Array.toList_setIfInBounds, ← htake, List.take_set]
theorem rekey_own {B : Nat} {w w' : World} {z : En} {ka : Option Addr} {kc : Nat} {key : List Int} (h : z.Own B w') (hk : Go.Proofs.Ytcflnkepopcofaa.Own w' (.slice ka key.length kc) key) (h8 : Byts key) (hkb : ∀ k, (Value.slice ka key.length kc).ownBlock = some k → B ≤ k) (hap : ∀ k, (Value.slice ka key.length kc).ownBlock = some k → ¬ z.has k) : (z.rekey ka kc key).Own B w' :=
  ⟨hk, h.val, hkb, h.vb, fun k hk hv => hap k hk (.inr hv), h8, h.v8, h.page, h.size⟩
theorem Cl.rekey {B : Nat} {w : World} {g n c i : Nat} {zs : List En} {z : En} {ka : Option Addr} {kc : Nat} {key : List Int} (h : Cl B w (.slice (some ⟨g, 0, none⟩) n c) zs) (hz : zs[i]? = some z)
    (hk : Go.Proofs.Ytcflnkepopcofaa.Own w (.slice ka key.length kc) key) (h8 : Byts key) (hkb : ∀ k, (Value.slice ka key.length kc).ownBlock = some k → B ≤ k) (hap : ∀ k, (Value.slice ka key.length kc).ownBlock = some k → ∀ y ∈ zs, ¬ y.has k) :
    Cl B (w.setCell ⟨g, i * 4, none⟩ (.slice ka key.length kc)) (.slice (some ⟨g, 0, none⟩) n c) (zs.set i (z.rekey ka kc key)) := by
  have hn : n = zs.length := by
    obtain ⟨a, c', e, _⟩ := h.ens
    cases e
    rfl
  subst hn
  obtain ⟨_, _, cur, hg⟩ := h.block (k := g) rfl
  have hst : ∀ k, k ≠ g → (w.setCell ⟨g, i * 4, none⟩ (.slice ka key.length kc)).heap[k]? = w.heap[k]? := fun k hk => Below.heap_setCell _ _ _ _ hk
  have hkg : ∀ k, (Value.slice ka key.length kc).ownBlock = some k → k ≠ g := fun k hk' e => by
    subst e
    obtain ⟨cur', h1⟩ := hk.u8 hk'
    exact type_ne h1 hg
  have heach : ∀ y ∈ zs, y.Own B (w.setCell ⟨g, i * 4, none⟩ (.slice ka key.length kc)) := fun y hy => (h.each y hy).of_block fun k hk' => hst k fun e => by
    subst e
    obtain ⟨cur', h1⟩ := (h.each y hy).u8 hk'
    exact type_ne h1 hg
  have hzm : z ∈ zs := List.mem_of_getElem? hz
  have hnew : (z.rekey ka kc key).Own B (w.setCell ⟨g, i * 4, none⟩ (.slice ka key.length kc)) :=
    rekey_own (w := w) (heach z hzm) (hk.of_block fun k hk' => hst k (hkg k hk')) h8 hkb (fun k hk' => hap k hk' z hzm)
  have hrow := row_set (j := i * 4) h.row (.slice ka key.length kc)
  rw [rowc_rekey zs i z hz] at hrow
  refine ⟨by rw [List.length_set]; exact hrow, fun y hy => ?_, fun p q yp yq k hp hq hkp hkq => ?_⟩
  · rcases List.mem_or_eq_of_mem_set hy with hy | rfl
    · exact heach y hy
    · exact hnew
  · have hre : ∀ k, (z.rekey ka kc key).has k → (Value.slice ka key.length kc).ownBlock = some k ∨ z.has k := fun k hk' => hk'.elim .inl (fun h => .inr (.inr h))
    rw [List.getElem?_set] at hp hq
    by_cases ep : i = p
    · by_cases eq : i = q
      · omega
      · rw [if_neg eq] at hq
        rw [if_pos ep] at hp
        split at hp
        · simp at hp
          subst hp
          rcases hre k hkp with h1 | h1
          · exact absurd hkq (hap k h1 yq (List.mem_of_getElem? hq))
          · exact absurd (h.apart i q z yq k hz hq h1 hkq) eq
        · simp at hp
    · rw [if_neg ep] at hp
      by_cases eq : i = q
      · rw [if_pos eq] at hq
        split at hq
        · simp at hq
          subst hq
          rcases hre k hkq with h1 | h1
          · exact absurd hkp (hap k h1 yp (List.mem_of_getElem? hp))
          · exact absurd (h.apart i p z yp k hz hp h1 hkp) ep
        · simp at hq
      · rw [if_neg eq] at hq
        exact h.apart p q yp yq k hp hq hkp hkq
/-- a list of entries whose first one has no key. -/
def noKey : List Ee → List Ee
  | [] => []
  | e :: r => ⟨[], e.val, e.page, e.size⟩ :: r
/-- a list of entries whose first one has that key. -/
def withKey (key : List Int) : List Ee → List Ee
  | [] => []
  | e :: r => ⟨key, e.val, e.page, e.size⟩ :: r
/-- the first key is taken away. -/
theorem Cl.nokey {B : Nat} {w : World} {g n c : Nat} {zs : List En} (h : Cl B w (.slice (some ⟨g, 0, none⟩) n c) zs) (hn : zs ≠ []) :
    ∃ us : List En, us.length = zs.length ∧ ers us = noKey (ers zs) ∧ Cl B (w.setCell ⟨g, 0, none⟩ (.slice none 0 0)) (.slice (some ⟨g, 0, none⟩) n c) us := by
  cases zs with
  | nil => exact absurd rfl hn
  | cons z zs =>
    refine ⟨(z :: zs).set 0 (z.rekey none 0 []), by simp, by simp [ers, noKey, En.rekey], ?_⟩
    have := h.rekey (i := 0) (z := z) (ka := none) (kc := 0) (key := []) rfl (Own.nil _) (by intro c hc; simp at hc) (by intro k hk; simp [Value.ownBlock] at hk) (by intro k hk; simp [Value.ownBlock] at hk)
    simpa using this
theorem Cl.first {B : Nat} {w : World} {v : Value} {zs : List En} (h : Cl B w v zs) (hn : zs ≠ []) : ∃ g c u, v = .slice (some ⟨g, 0, none⟩) zs.length c ∧ B ≤ g ∧ g < w.heap.size ∧ w.cell? ⟨g, 0, none⟩ = some u ∧ w.frozen? ⟨g, 0, none⟩ = false := by
  rcases h.row.2 with ⟨rfl, h0⟩ | ⟨g, cap, cur, rfl, hb, hg, hl, hm, hcs, htake⟩
  · exact absurd (List.eq_nil_of_length_eq_zero h0) hn
  · have hp : 0 < zs.length := by cases zs; exact absurd rfl hn; simp
    refine ⟨g, cap, cur[0]'(by omega), rfl, hb, lt_of_block hg, by simp [World.cell?, hg], by simp [World.frozen?, hg]⟩
end Go.Proofs.Ytcflnkepopcofaa
