/- A page that is written twice, the second time torn: its states. -/
import Derived.Test.YtgbnlcpmpkbmkaaDU
namespace Go.Proofs.Ytgbnlcpmpkbmkaa
open Go.RowKit Go.Maps
set_option linter.unusedVariables false

def T1 (o : Int) : DS := K0.op2.adds 8 (List.replicate 1024 o) 8
def T2 (o : Int) : DS := (T1 o).op3.set yes
def T3 (o n : Int) : DS := (T2 o).op2.adds 8 (List.replicate 1024 n) 8
def T4 (o n : Int) (bs : List Bool) : DS := (T3 o n).cut bs
theorem t1 (o : Int) : (T1 o).er (T1 o).s3 (T1 o).l3 = 0 ∧ (T1 o).n3 = 0 := ⟨rfl, rfl⟩
theorem t1w (o : Int) : (T1 o).ws = (List.range 8).map fun i => (8 + i, sec (List.replicate 1024 o) i) := by show [] ++ _ = _; rfl
theorem t2 (o : Int) : (T2 o).er (T2 o).s2 (T2 o).l2 = 0 ∧ (T2 o).ls.length = 16 ∧ (T2 o).ws.length = 0 ∧ (T2 o).n2 = 1 := ⟨rfl, by show (settled _ _ _ _).length = 16; rw [settled_len]; rfl, rfl, rfl⟩
theorem t3w (o n : Int) : (T3 o n).ws = (List.range 8).map fun i => (8 + i, sec (List.replicate 1024 n) i) := by show [] ++ _ = _; rfl
theorem t4 (o n : Int) (bs : List Bool) : (T4 o n bs).er (T4 o n bs).s1 (T4 o n bs).l1 = 0 ∧ (T4 o n bs).ls.length = 16 ∧ (T4 o n bs).n1 = 0 := ⟨rfl, by show (settled _ _ _ _).length = 16; rw [settled_len]; exact (t2 o).2.1, rfl⟩
theorem settled_at (ls : List (List Int)) (ws : List (Nat × List Int)) (f : Nat → Bool) (b : Nat) (g : Nat → List Int) : ∀ k, (∀ i, i < k → ws.getD i (0, []) = (b + i, g i)) → ∀ i, b + i < ls.length → (settled ls ws f k).getD (b + i) [] = if i < k ∧ f i = true then g i else ls.getD (b + i) []
  | 0, _, i, _ => by simp [settled]
  | k + 1, h, i, hi => by
    have ih := settled_at ls ws f b g k (fun j hj => h j (by omega)) i hi
    rw [settled, h k (by omega)]
    have hl : (settled ls ws f k).length = ls.length := settled_len _ _ _ _
    by_cases hf : f k = true
    · rw [if_pos hf]
      by_cases e : i = k
      · subst e
        rw [if_pos ⟨by omega, hf⟩, List.getD_eq_getElem?_getD, List.getElem?_set_self (by omega)]
        rfl
      · rw [List.getD_eq_getElem?_getD, List.getElem?_set_ne (by simp; omega), ← List.getD_eq_getElem?_getD, ih]
        by_cases h1 : i < k ∧ f i = true
        · rw [if_pos h1, if_pos ⟨by omega, h1.2⟩]
        · rw [if_neg h1, if_neg (fun h2 => h1 ⟨by omega, h2.2⟩)]
    · rw [if_neg hf, ih]
      by_cases h1 : i < k ∧ f i = true
      · rw [if_pos h1, if_pos ⟨by omega, h1.2⟩]
      · rw [if_neg h1, if_neg (fun h2 => h1 ⟨by have h3 : i ≠ k := fun e => hf (e ▸ h2.2); omega, h2.2⟩)]
theorem sec_rep (c : Int) (i : Nat) (h : i < 8) : sec (List.replicate 1024 c) i = List.replicate 128 c := by
  unfold sec
  rw [List.drop_replicate, List.take_replicate]
  congr 1
  omega
/-- each sector has what it had, or what was written. -/
theorem torn (o n : Int) (bs : List Bool) (i : Nat) (hi : i < 8) : newest (T4 o n bs) (8 + i) = List.replicate 128 (if kp bs i = true then n else o) := by
  have hw : ∀ c : Int, ∀ j, j < 8 → ((List.range 8).map fun i => (8 + i, sec (List.replicate 1024 c) i)).getD j (0, []) = (8 + j, List.replicate 128 c) := fun c j hj => by
    rw [List.getD_eq_getElem?_getD, List.getElem?_map, List.getElem?_range hj]
    simp only [Option.map_some, Option.getD_some, sec_rep c j hj]
  have h4 : newest (T4 o n bs) (8 + i) = (settled (T3 o n).ls (T3 o n).ws (kp bs) 8).getD (8 + i) [] := rfl
  have h3 : (T3 o n).ls.getD (8 + i) [] = (settled (T1 o).ls (T1 o).ws yes 8).getD (8 + i) [] := rfl
  have l3 : (T3 o n).ls.length = 16 := (t2 o).2.1
  rw [h4, settled_at _ _ _ 8 (fun _ => List.replicate 128 n) 8 (fun j hj => by rw [t3w]; exact hw n j hj) i (by rw [l3]; omega), h3, settled_at _ _ _ 8 (fun _ => List.replicate 128 o) 8 (fun j hj => by rw [t1w]; exact hw o j hj) i (by show 8 + i < 16; omega)]
  rw [if_pos (show i < 8 ∧ yes i = true from ⟨hi, rfl⟩)]
  by_cases hk : kp bs i = true
  · rw [if_pos ⟨hi, hk⟩, if_pos hk]
  · rw [if_neg (fun h => hk h.2), if_neg hk]
theorem sec_rd {S : DS} (h : S.Good) (b : Nat) : ∀ k, b + k ≤ S.ls.length → ∀ i, i < k → sec (rd S b k) i = newest S (b + i)
  | 0, _, i, hi => by omega
  | k + 1, hk, i, hi => by
    have hl := rd_len h b k (by omega)
    unfold sec
    rw [rd_succ]
    by_cases e : i = k
    · subst e
      rw [List.drop_append, List.drop_of_length_le (by omega), hl, Nat.sub_self, List.drop_zero, List.nil_append, List.take_of_length_le (by rw [(newest_good h (b + i) (by omega)).1]; omega)]
    · have ih := sec_rd h b k (by omega) i (by omega)
      unfold sec at ih
      rw [List.drop_append_of_le_length (by omega), List.take_append_of_le_length (by rw [List.length_drop, hl]; omega), ih]
theorem DkAt.good {w : World} {p q : Nat} {S : DS} {O : Nat → Prop} (h : DkAt w p q S O) : S.Good := by
  obtain ⟨vw, m, hd, _⟩ := h
  exact hd.good
theorem own_cap {w : World} {g n c : Nat} {zs : List Int} (h : Own w (.slice (some ⟨g, 0, none⟩) n c) zs) : n ≤ c := by
  rcases h.2 with ⟨e, _⟩ | ⟨g', cap, cur, e, _, _, hn, _⟩
  · cases e
  · cases e; exact hn
theorem own_capm {w : World} {g n c : Nat} {zs : List Int} (h : Own w (.slice (some ⟨g, 0, none⟩) n c) zs) : c ≤ 9223372036854775807 := by
  rcases h.2 with ⟨e, _⟩ | ⟨g', cap, cur, e, _, _, _, hm, _⟩
  · cases e
  · cases e; unfold maxLen at hm; omega
theorem rd_len' (o n : Int) (bs : List Bool) {w : World} {p q : Nat} {O : Nat → Prop} (h : DkAt w p q (T4 o n bs) O) : (rd (T4 o n bs) 8 8).length = 1024 := rd_len h.good 8 8 (by rw [(t4 o n bs).2.1]; omega)
theorem Row.cut {w : World} {g : Nat} {zs : List Int} (h : Row w (some ⟨g, 0, none⟩) zs) (k : Nat) (hk : k < 8) (hz : zs.length = 1024) : Row w (some ⟨g, k * 128, none⟩) (sec zs k) := by
  rcases h with h | ⟨b, off, e, hlt, hc⟩
  · subst h; simp at hz
  · cases e
    refine .inr ⟨g, k * 128, rfl, hlt, fun i hi => ?_⟩
    have h1 : i < 128 := by unfold sec at hi; simp at hi; omega
    have := hc (k * 128 + i) (by omega)
    rw [Nat.zero_add] at this
    rw [this]
    unfold sec
    simp [List.getD_eq_getElem?_getD, h1]
theorem brow_at {w : World} {a : Option Addr} {bs : List Bool} (h : BRow w a bs) {k : Nat} (hk : k < bs.length) : ∃ b off, a = some ⟨b, off, none⟩ ∧ w.cell? ⟨b, off + k, none⟩ = some (.bool (kp bs k)) := by
  rcases h with h | ⟨b, off, rfl, _, hc⟩
  · subst h; simp at hk
  · exact ⟨b, off, rfl, hc k hk⟩
theorem kp_out (bs : List Bool) (k : Nat) (h : bs.length ≤ k) : kp bs k = false := by unfold kp; rw [List.getD_eq_getElem?_getD, List.getElem?_eq_none h]; rfl
end Go.Proofs.Ytgbnlcpmpkbmkaa
