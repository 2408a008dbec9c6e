/- The disk's struct: one field turned; a countdown of it; its pages. -/
import Derived.Test.YtkkjppdooaipiaaDB
namespace Go.Proofs.Ytkkjppdooaipiaa
open Go.RowKit Go.Maps
set_option linter.unusedVariables false

section
variable {w w' : World} {p q : Nat} {vw : Value} {m : Option Nat} {S S' : DS}
theorem Dk.c (h : Dk w p q vw m S) (i : Nat) (v : Value) (hv : (cells q vw m S)[i]? = some v) : w.cell? ⟨p, i, none⟩ = some v := by simp [World.cell?, h.blk, hv]
theorem Dk.f (h : Dk w p q vw m S) (i : Nat) : w.frozen? ⟨p, i, none⟩ = false := by simp [World.frozen?, h.blk]
/-- only the struct has turned. -/
theorem Dk.fields (h : Dk w p q vw m S) (h1 : S'.ls = S.ls) (h2 : S'.ws = S.ws) (hg : S'.Good) (hb : w'.heap[p]? = some (.cells (cells q vw m S') 66 (0, 0))) (ho : ∀ k, k ≠ p → w'.heap[k]? = w.heap[k]?) : Dk w' p q vw m S' := by
  refine ⟨hb, ?_, ?_, ?_, h.pq, h.pv, h.qv, h.pm, h.qm, h.vm, hg⟩
  · rw [ho q h.pq.symm, h1]; exact h.las
  · rw [h2]
    obtain ⟨k1, k2⟩ := h.wri
    refine ⟨k1, ?_⟩
    rcases k2 with k2 | ⟨g, cap, cur, rfl, hg, hh, r⟩
    · exact .inl k2
    · exact .inr ⟨g, cap, cur, rfl, hg, by rw [ho g (fun e => h.pv (by rw [← e]; rfl))]; exact hh, r⟩
  · rw [h2]
    have := h.map
    cases m with
    | none => exact this
    | some b =>
      obtain ⟨n, D, hn, ⟨es, clock, e1, e2⟩, ht⟩ := this
      exact ⟨n, D, hn, ⟨es, clock, (ho b (fun e => h.pm (by rw [e]))).trans e1, e2⟩, ht⟩
theorem set_other (w : World) (p i : Nat) (v : Value) (k : Nat) (hk : k ≠ p) : (w.setCell ⟨p, i, none⟩ v).heap[k]? = w.heap[k]? := Below.heap_setCell _ _ _ _ (fun e => hk e)
theorem mv_set (w : World) (p i : Nat) (v : Value) : Mv (· = p) w (w.setCell ⟨p, i, none⟩ v) := ⟨rfl, rfl, rfl, by simp [World.setCell], fun k _ hk => set_other w p i v k hk⟩
theorem Mv.trans' {O : Nat → Prop} {a b c : World} (h : Mv O a b) (k : Mv O b c) : Mv O a c :=
  ⟨k.os.trans h.os, k.tape.trans h.tape, k.output.trans h.output, Nat.le_trans h.size k.size, fun i hi hn => (k.block i (Nat.lt_of_lt_of_le hi h.size) hn).trans (h.block i hi hn)⟩
theorem tick_cd (s : Bool) (l : Int) (h : Cd s l) : Cd (tick s l).2.1 (tick s l).2.2 := by
  obtain ⟨h1, h2⟩ := h
  unfold tick Cd
  split
  · split
    · simp
    · simp; omega
  · exact ⟨h1, h2⟩
end

/-- what a countdown at o does to a disk whose countdown it is. -/
theorem strikes_at (p q : Nat) (vw : Value) (m : Option Nat) (S S' : DS) (o : Nat) (s : Bool) (l : Int) (w : World) (h : Dk w p q vw m S)
    (h0 : (cells q vw m S)[o]? = some (.bool s)) (h1 : (cells q vw m S)[o + 1]? = some (.int .i64 l)) (hl : Cd s l)
    (e1 : S'.ls = S.ls) (e2 : S'.ws = S.ws) (hg : S'.Good) (hc : cells q vw m S' = ((cells q vw m S).setIfInBounds o (.bool (tick s l).2.1)).setIfInBounds (o + 1) (.int .i64 (tick s l).2.2)) :
    Calls Try.prog 54 #[.pointer (some ⟨p, o, none⟩)] w fun e w' => e = .returned (.bool (tick s l).1) ∧ Dk w' p q vw m S' ∧ Mv (· = p) w w' ∧ w'.heap.size = w.heap.size := by
  refine (strikes_any p o s l w (h.c o _ h0) (h.c (o + 1) _ h1) (h.f o) (h.f (o + 1)) hl).mono ?_
  rintro e w' ⟨rfl, rfl⟩
  refine ⟨rfl, ?_⟩
  have hb := h.blk
  unfold tick at hc
  cases s
  · simp only [Bool.false_eq_true, if_false] at hc ⊢
    refine ⟨h.fields e1 e2 hg ?_ (fun _ _ => rfl), Mv.refl _ _, trivial⟩
    rw [h.blk, hc]
    congr 2
    apply Array.ext_getElem?
    intro j
    rw [Array.getElem?_setIfInBounds, Array.getElem?_setIfInBounds]
    by_cases j1 : o + 1 = j
    · subst j1; rw [h1]; simp; exact (Array.getElem?_eq_some_iff.1 h1).1
    · rw [if_neg j1]
      by_cases j2 : o = j
      · subst j2; rw [h0]; simp; exact (Array.getElem?_eq_some_iff.1 h0).1
      · rw [if_neg j2]
  · simp only [if_true] at hc ⊢
    by_cases hz : l = 0
    · rw [if_pos hz] at hc ⊢
      refine ⟨h.fields e1 e2 hg ?_ (fun k hk => by rw [set_other _ _ _ _ _ hk, set_other _ _ _ _ _ hk]), (mv_set _ _ _ _).trans' (mv_set _ _ _ _), by simp [World.setCell]⟩
      rw [heap_setCell_same _ p (o + 1) _ 66 _ (heap_setCell_same w p o _ 66 _ hb), hc]
    · rw [if_neg hz] at hc ⊢
      refine ⟨h.fields e1 e2 hg ?_ (fun k hk => by rw [set_other _ _ _ _ _ hk]), mv_set _ _ _ _, by simp [World.setCell]⟩
      rw [heap_setCell_same _ p (o + 1) _ 66 _ hb, hc]
      congr 3
      apply Array.ext_getElem?
      intro j
      rw [Array.getElem?_setIfInBounds]
      by_cases j2 : o = j
      · subst j2; rw [h0]; simp; exact (Array.getElem?_eq_some_iff.1 h0).1
      · rw [if_neg j2]

set_option maxHeartbeats 800000 in
set_option maxRecDepth 1000000 in
theorem pages_any (p q n : Nat) (w : World) (h0 : w.cell? ⟨p, 0, none⟩ = some (.slice (some ⟨q, 0, none⟩) n n)) (hn : n ≤ 131072) :
    Calls Try.prog 33 #[.pointer (some ⟨p, 0, none⟩)] w fun e w' => e = .returned (.int .i64 ((n / 8 : Nat) : Int)) ∧ Below w.heap.size w w' := by
  go_enter Try.func33, Try.ntmps33
  go_wp2
  go_ret
  exact ⟨rfl, Below.refl _ _⟩

set_option maxHeartbeats 800000 in
set_option maxRecDepth 1000000 in
theorem has_any (p q n : Nat) (page : Int) (w : World) (h0 : w.cell? ⟨p, 0, none⟩ = some (.slice (some ⟨q, 0, none⟩) n n)) (hn : n ≤ 131072) :
    Calls Try.prog 38 #[.pointer (some ⟨p, 0, none⟩), .int .i64 page] w fun e w' => e = .returned (.bool (decide (0 ≤ page ∧ page < ((n / 8 : Nat) : Int)))) ∧ Below w.heap.size w w' := by
  have HP := hide (fun W (h : Below w.heap.size w W) => pages_any p q n W (by rw [h.cell (World.block_lt_of_cell? w _ h0)]; exact h0) hn)
  by_cases h1 : 0 ≤ page
  · have hd : decide (0 ≤ page) = true := by simp [h1]
    by_cases h2 : page < ((n / 8 : Nat) : Int)
    · have hr : Hid (decide (0 ≤ page ∧ page < ((n / 8 : Nat) : Int)) = true) := by simp only [Hid, decide_eq_true_eq]; exact ⟨h1, h2⟩
      have hd2 : decide (page < ((n / 8 : Nat) : Int)) = true := by simp only [decide_eq_true_eq]; exact h2
      rw [hr.out]
      clear h1 h2 h0 hr
      generalize n / 8 = N at *
      go_enter Try.func38, Try.ntmps38
      go_wp2_with fail
      refine (HP.out w (Below.refl _ _)).mono ?_
      rintro e w1 ⟨rfl, hb⟩
      go_wp2
      go_ret
      exact ⟨rfl, hb⟩
    · have hr : Hid (decide (0 ≤ page ∧ page < ((n / 8 : Nat) : Int)) = false) := by simp only [Hid, decide_eq_false_iff_not]; exact fun h => h2 h.2
      have hd2 : decide (page < ((n / 8 : Nat) : Int)) = false := by simp only [decide_eq_false_iff_not]; exact h2
      rw [hr.out]
      clear h1 h2 h0 hr
      generalize n / 8 = N at *
      go_enter Try.func38, Try.ntmps38
      go_wp2_with fail
      refine (HP.out w (Below.refl _ _)).mono ?_
      rintro e w1 ⟨rfl, hb⟩
      go_wp2
      go_ret
      exact ⟨rfl, hb⟩
  · have hd : decide (0 ≤ page) = false := by simp [h1]
    have hr : Hid (decide (0 ≤ page ∧ page < ((n / 8 : Nat) : Int)) = false) := by simp only [Hid, decide_eq_false_iff_not]; exact fun h => h1 h.1
    rw [hr.out]
    clear h1 h0 hr
    go_enter Try.func38, Try.ntmps38
    go_wp2
    go_ret
    exact ⟨rfl, Below.refl _ _⟩
end Go.Proofs.Ytkkjppdooaipiaa
