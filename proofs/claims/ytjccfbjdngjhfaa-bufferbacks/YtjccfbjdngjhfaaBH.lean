/- Back, of a buffer told by what it says. -/
import Derived.Test.YtjccfbjdngjhfaaBG
namespace Go.Proofs.Ytjccfbjdngjhfaa
open Go.RowKit Go.Maps
set_option linter.unusedVariables false
theorem back_st {w : World} {p B n m : Nat} {es : List Ee} {hs : List (List Ee)} {O : Nat → Prop} (h : St w p B es n hs O) (hm : m ≤ n) (hn : n ≤ 900000) (hle : ∀ k l, m < k → (hs ++ [es])[k]? = some l → l.length ≤ 1000000) :
    Calls Try.prog 12 #[.pointer (some ⟨p, 0, none⟩), .int .i64 (m : Int)] w fun e w' => e = .returned (.int .u16 0) ∧ ∃ O' es', (hs ++ [es])[m]? = some es' ∧ St w' p B es' m (hs.take m) O' ∧ Go1 O w O' w' := by
  have hM := mark_any h
  obtain ⟨sv, uv, xs, us, hh, h1, rfl, h3, rfl, h5, h6, h7⟩ := h
  have hall : hh.map ers ++ [ers xs] = (hh ++ [xs]).map ers := by simp
  rw [hall] at hle
  have hhl : hh.length = n := by rw [h1.len, h3]
  by_cases hlt : m < n
  · refine (back_lt h1 hM h3 hlt hn (fun k l hk hl => by have := hle k (ers l) hk (by rw [List.getElem?_map, hl]; rfl); rwa [ers_len] at this)).mono ?_
    rintro e w' ⟨rfl, l, sv', uv', hl, hbf, ho1, ho2, hmv⟩
    have hbo : ∀ k, Bo p sv' uv' k ↔ Bo p sv uv k := fun k => by unfold Bo; rw [ho1, ho2]
    have hlm : l ∈ hh := by
      have : (hh ++ [xs])[m]? = hh[m]? := List.getElem?_append_left (by omega)
      rw [this] at hl
      exact List.mem_of_getElem? hl
    refine ⟨rfl, Bo p sv' uv', ers l, by rw [hall, List.getElem?_map, hl]; rfl, ⟨sv', uv', l, us.take m, hh.take m, ⟨hbf, ?_, fun k u hk => ?_, fun l' hl' x hx => h1.bf.own_move hmv (h1.olds l' (List.mem_of_mem_take hl') x hx)⟩, rfl, ?_, by rw [List.map_take], fun k => Iff.rfl, h7 _ (List.mem_map.2 ⟨l, hlm, rfl⟩), fun l' hl' => h7 l' (List.mem_of_mem_take hl')⟩, ⟨hmv.mono fun k hk => (h5 k).2 hk, fun k hk => .inl ((h5 k).2 ((hbo k).1 hk))⟩⟩
    · rw [List.length_take, List.length_take, hhl, h3]
    · have hkm : k < m := by
        have := (List.getElem?_eq_some_iff.1 hk).1
        rw [List.length_take] at this; omega
      rw [List.getElem?_take_of_lt hkm] at hk
      obtain ⟨a, b, ha, hb, hU⟩ := h1.und k u hk
      have hst : ∀ j, j ≤ m → (hh.take m ++ [l])[j]? = (hh ++ [xs])[j]? := fun j hj => by
        by_cases hjm : j < m
        · rw [List.getElem?_append_left (by rw [List.length_take]; omega), List.getElem?_take_of_lt hjm, List.getElem?_append_left (by omega)]
        · obtain rfl : j = m := by omega
          rw [hl, List.getElem?_append_right (by rw [List.length_take]; omega), List.length_take, Nat.min_eq_left (by omega), Nat.sub_self]
          rfl
      exact ⟨a, b, (hst k (by omega)).trans ha, (hst (k + 1) (by omega)).trans hb, hU.move h1.bf hmv (fun j hj => .inl (by rw [← ho1]; exact hj))⟩
    · rw [List.length_take, h3]; omega
  · obtain rfl : m = n := by omega
    refine (back_eq h1 hM h3 hn).mono ?_
    rintro e w' ⟨rfl, uv', hbf, ho2, hmv⟩
    have hbo : ∀ k, Bo p sv uv' k ↔ Bo p sv uv k := fun k => by unfold Bo; rw [ho2]
    refine ⟨rfl, Bo p sv uv', ers xs, by rw [List.getElem?_append_right (by simp; omega)]; simp [hhl], ⟨sv, uv', xs, us, hh, ⟨hbf, h1.len, fun k u hk => ?_, fun l' hl' x hx => h1.bf.own_move hmv (h1.olds l' hl' x hx)⟩, rfl, h3, by rw [List.take_of_length_le (by simp; omega)], fun k => Iff.rfl, h6, fun l' hl' => h7 l' (List.mem_of_mem_take hl')⟩, ⟨hmv.mono fun k hk => (h5 k).2 hk, fun k hk => .inl ((h5 k).2 ((hbo k).1 hk))⟩⟩
    obtain ⟨a, b, ha, hb, hU⟩ := h1.und k u hk
    exact ⟨a, b, ha, hb, hU.move h1.bf hmv (fun j hj => .inl hj)⟩
end Go.Proofs.Ytjccfbjdngjhfaa
