/- Sheets in memory: a sheet leaves the ring, a sheet is hung into it. -/
import Derived.Test.YtkkjppdooaipiaaDJ
import Derived.Test.YtkkjppdooaipiaaPA
import Derived.BigRegion
namespace Go.Proofs.Ytkkjppdooaipiaa
open Go.RowKit Go.Maps
set_option linter.unusedVariables false

theorem Mv.setB {O : Nat → Prop} {w w' : World} (h : Mv O w w') {b : Nat} (hb : O b) (i : Nat) (v : Value) : Mv O w (w'.setCell ⟨b, i, none⟩ v) :=
  ⟨h.os, h.tape, h.output, by simpa [World.setCell] using h.size, fun k hk ho => by
    have hne : k ≠ b := fun e => ho (by rw [e]; exact hb)
    rw [set_other _ _ _ _ _ hne]
    exact h.block k hk ho⟩
/-- a sheet: its block, its page's number and kind, its payload and where that lies. -/
structure Sh where
  b : Nat
  n : Nat
  k : Nat
  v : Value
  pl : List Int
/-- the end of the ring. -/
def eS (e : Nat) : Sh := ⟨e, 0, 0, .slice none 0 0, []⟩
/-- a sheet's cells. -/
def shc (x y n k : Nat) (v : Value) : Array Value := #[.pointer (some ⟨x, 0, none⟩), .pointer (some ⟨y, 0, none⟩), .int .u32 (n : Int), .int .u8 (k : Int), v]
/-- sheets that lie in memory. -/
def Fam (w : World) (M : List Sh) (el yo : Nat → Nat) : Prop := ∀ s ∈ M, w.heap[s.b]? = some (.cells (shc (el s.b) (yo s.b) s.n s.k s.v) 79 (0, 0))
variable {w w' : World} {M : List Sh} {el yo : Nat → Nat}
theorem Fam.c (h : Fam w M el yo) {s : Sh} (hs : s ∈ M) : w.cell? ⟨s.b, 0, none⟩ = some (.pointer (some ⟨el s.b, 0, none⟩)) ∧ w.cell? ⟨s.b, 1, none⟩ = some (.pointer (some ⟨yo s.b, 0, none⟩)) ∧ w.cell? ⟨s.b, 2, none⟩ = some (.int .u32 (s.n : Int)) ∧ w.cell? ⟨s.b, 3, none⟩ = some (.int .u8 (s.k : Int)) ∧ w.cell? ⟨s.b, 4, none⟩ = some s.v := by
  have := h s hs
  simp [World.cell?, this, shc]
theorem Fam.f (h : Fam w M el yo) {s : Sh} (hs : s ∈ M) (i : Nat) : w.frozen? ⟨s.b, i, none⟩ = false := by
  have := h s hs
  simp [World.frozen?, this]
theorem Fam.syo (h : Fam w M el yo) (a c : Nat) : Fam (w.setCell ⟨a, 1, none⟩ (.pointer (some ⟨c, 0, none⟩))) M el (upd yo a c) := by
  intro s hs
  by_cases e : s.b = a
  · subst e
    rw [heap_setCell_same w s.b 1 _ 79 _ (h s hs), upd_same]
    rfl
  · rw [Below.heap_setCell _ _ _ _ (fun h => e h), upd_other _ e]
    exact h s hs
theorem Fam.sel (h : Fam w M el yo) (a c : Nat) : Fam (w.setCell ⟨a, 0, none⟩ (.pointer (some ⟨c, 0, none⟩))) M (upd el a c) yo := by
  intro s hs
  by_cases e : s.b = a
  · subst e
    rw [heap_setCell_same w s.b 0 _ 79 _ (h s hs), upd_same]
    rfl
  · rw [Below.heap_setCell _ _ _ _ (fun h => e h), upd_other _ e]
    exact h s hs
theorem Fam.drew (h : Fam w M el yo) : Fam w.drew M el yo := h
theorem Fam.sub {M' : List Sh} (h : Fam w M el yo) (hs : ∀ s ∈ M', s ∈ M) : Fam w M' el yo := fun s hm => h s (hs s hm)

set_option maxHeartbeats 1600000 in
set_option maxRecDepth 1000000 in
theorem leave_any (b a c : Nat) (va vc : Value) (w : World) (h0 : w.cell? ⟨b, 0, none⟩ = some (.pointer (some ⟨a, 0, none⟩))) (h1 : w.cell? ⟨b, 1, none⟩ = some (.pointer (some ⟨c, 0, none⟩)))
    (ha : w.cell? ⟨a, 1, none⟩ = some va) (hc : w.cell? ⟨c, 0, none⟩ = some vc) (fa : w.frozen? ⟨a, 1, none⟩ = false) (fc : w.frozen? ⟨c, 0, none⟩ = false) :
    Calls Try.prog 34 #[.pointer (some ⟨b, 0, none⟩)] w fun e w' => e = .returned (.tuple #[]) ∧ w' = (w.drew.setCell ⟨a, 1, none⟩ (.pointer (some ⟨c, 0, none⟩))).setCell ⟨c, 0, none⟩ (.pointer (some ⟨a, 0, none⟩)) := by
  go_enter Try.func34, Try.ntmps34
  go_wp2
  go_region
  go_end0
  exact ⟨rfl, rfl⟩
set_option maxHeartbeats 1600000 in
set_option maxRecDepth 1000000 in
theorem hang_any (s e a : Nat) (v0 v1 va : Value) (w : World) (hne : s ≠ e) (hsa : s ≠ a) (h0 : w.cell? ⟨e, 0, none⟩ = some (.pointer (some ⟨a, 0, none⟩))) (hs0 : w.cell? ⟨s, 0, none⟩ = some v0) (hs1 : w.cell? ⟨s, 1, none⟩ = some v1)
    (ha : w.cell? ⟨a, 1, none⟩ = some va) (f0 : w.frozen? ⟨s, 0, none⟩ = false) (f1 : w.frozen? ⟨s, 1, none⟩ = false) (fa : w.frozen? ⟨a, 1, none⟩ = false) (fe : w.frozen? ⟨e, 0, none⟩ = false) :
    Calls Try.prog 35 #[.pointer (some ⟨s, 0, none⟩), .pointer (some ⟨e, 0, none⟩)] w fun ed w' => ed = .returned (.tuple #[]) ∧ w' = ((((w.setCell ⟨s, 0, none⟩ (.pointer (some ⟨a, 0, none⟩))).setCell ⟨s, 1, none⟩ (.pointer (some ⟨e, 0, none⟩))).drew.setCell ⟨a, 1, none⟩ (.pointer (some ⟨s, 0, none⟩))).setCell ⟨e, 0, none⟩ (.pointer (some ⟨s, 0, none⟩))) := by
  go_enter Try.func35, Try.ntmps35
  go_wp2
  go_region
  go_end0
  exact ⟨rfl, rfl⟩
/-- the leaving of a sheet, as the ring has it. -/
theorem leave_fam {e : Nat} {u v : List Sh} {s : Sh} (hf : Fam w (eS e :: (u ++ s :: v)) el yo) (hr : Ring el yo e ((u ++ s :: v).map Sh.b)) :
    Calls Try.prog 34 #[.pointer (some ⟨s.b, 0, none⟩)] w fun ed w' => ed = .returned (.tuple #[]) ∧ Fam w' (eS e :: (u ++ s :: v)) (upd el (yo s.b) (el s.b)) (upd yo (el s.b) (yo s.b)) ∧ Ring (upd el (yo s.b) (el s.b)) (upd yo (el s.b) (yo s.b)) e ((u ++ v).map Sh.b) ∧ Mv (fun k => k ∈ e :: (u ++ s :: v).map Sh.b) w w' := by
  have hr' := hr
  rw [List.map_append, List.map_cons] at hr'
  obtain ⟨h1, h2, -, -⟩ := hr'.around
  have hin : ∀ x, x ∈ e :: u.map Sh.b ∨ x ∈ e :: v.map Sh.b → ∃ t ∈ eS e :: (u ++ s :: v), t.b = x := by
    intro x hx
    simp only [List.mem_cons, List.mem_map] at hx
    rcases hx with (rfl | ⟨t, ht, rfl⟩) | (rfl | ⟨t, ht, rfl⟩)
    · exact ⟨eS x, by simp, rfl⟩
    · exact ⟨t, by simp [ht], rfl⟩
    · exact ⟨eS x, by simp, rfl⟩
    · exact ⟨t, by simp [ht], rfl⟩
  obtain ⟨ta, hta, ea⟩ := hin _ (Or.inl h1)
  obtain ⟨tc, htc, ec⟩ := hin _ (Or.inr h2)
  have hs : s ∈ eS e :: (u ++ s :: v) := by simp
  have hmem : ∀ t ∈ eS e :: (u ++ s :: v), t.b ∈ e :: (u ++ s :: v).map Sh.b := by
    intro t ht
    rcases List.mem_cons.1 ht with rfl | ht
    · exact List.mem_cons_self ..
    · exact List.mem_cons_of_mem _ (List.mem_map.2 ⟨t, ht, rfl⟩)
  refine (leave_any s.b (el s.b) (yo s.b) _ _ w (hf.c hs).1 (hf.c hs).2.1 (ea ▸ (hf.c hta).2.1) (ec ▸ (hf.c htc).1) (ea ▸ hf.f hta 1) (ec ▸ hf.f htc 0)).mono ?_
  rintro ed w' ⟨rfl, rfl⟩
  refine ⟨rfl, (hf.drew.syo _ _).sel _ _, by rw [List.map_append]; exact hr'.leave, ?_⟩
  exact (Mv.refl _ w).drew.setB (ea ▸ hmem ta hta) 1 _ |>.setB (ec ▸ hmem tc htc) 0 _
/-- a sheet is hung into the ring, just ahead of the end. -/
theorem hang_fam {e : Nat} {u : List Sh} {s : Sh} (v0 v1 : Value) (hf : Fam w (eS e :: u) el yo) (hr : Ring el yo e (u.map Sh.b)) (hs : s.b ∉ e :: u.map Sh.b) (hb : w.heap[s.b]? = some (.cells #[v0, v1, .int .u32 (s.n : Int), .int .u8 (s.k : Int), s.v] 79 (0, 0))) :
    Calls Try.prog 35 #[.pointer (some ⟨s.b, 0, none⟩), .pointer (some ⟨e, 0, none⟩)] w fun ed w' => ed = .returned (.tuple #[]) ∧ (∃ el' yo', Fam w' (eS e :: (u ++ [s])) el' yo' ∧ Ring el' yo' e ((u ++ [s]).map Sh.b)) ∧ Mv (fun k => k ∈ e :: (u ++ [s]).map Sh.b) w w' := by
  have he : eS e ∈ eS e :: u := by simp
  have hae : el e ∈ e :: u.map Sh.b := by
    have h2 := hr.lks
    obtain ⟨u', a, hu⟩ := snoc_of e (u.map Sh.b)
    rw [← List.cons_append, hu, List.append_assoc, List.singleton_append, Lks.app] at h2
    rw [h2.2.2.1, hu]
    simp
  obtain ⟨ta, hta, ea⟩ : ∃ t ∈ eS e :: u, t.b = el e := by
    rcases List.mem_cons.1 hae with h | h
    · exact ⟨eS e, he, h.symm⟩
    · obtain ⟨t, ht, e1⟩ := List.mem_map.1 h
      exact ⟨t, by simp [ht], e1⟩
  have hse : s.b ≠ e := fun h => hs (by simp [h])
  have hsa : s.b ≠ el e := fun h => hs (h ▸ hae)
  have c0 : w.cell? ⟨s.b, 0, none⟩ = some v0 := by simp [World.cell?, hb]
  have c1 : w.cell? ⟨s.b, 1, none⟩ = some v1 := by simp [World.cell?, hb]
  have ff : ∀ i, w.frozen? ⟨s.b, i, none⟩ = false := fun i => by simp [World.frozen?, hb]
  refine (hang_any s.b e (el e) v0 v1 _ w hse hsa (hf.c he).1 c0 c1 (ea ▸ (hf.c hta).2.1) (ff 0) (ff 1) (ea ▸ hf.f hta 1) (hf.f he 0)).mono ?_
  rintro ed w' ⟨rfl, rfl⟩
  have hmm : ∀ x, x ∈ e :: u.map Sh.b → x ∈ e :: (u ++ [s]).map Sh.b := by
    intro x hx
    rw [List.map_append]
    simp only [List.mem_cons, List.mem_append] at hx ⊢
    rcases hx with h | h
    · exact Or.inl h
    · exact Or.inr (Or.inl h)
  refine ⟨rfl, ⟨upd (upd el s.b (el e)) e s.b, upd (upd yo s.b e) (el e) s.b, ?_, by rw [List.map_append]; exact hr.hang hs⟩, ?_⟩
  · have hF : Fam ((w.setCell ⟨s.b, 0, none⟩ (.pointer (some ⟨el e, 0, none⟩))).setCell ⟨s.b, 1, none⟩ (.pointer (some ⟨e, 0, none⟩))) (eS e :: (u ++ [s])) (upd el s.b (el e)) (upd yo s.b e) := by
      intro t ht
      by_cases h : t.b = s.b
      · have hts : t = s := by
          rw [List.mem_cons, List.mem_append] at ht
          rcases ht with rfl | ht | ht
          · exact absurd h.symm hse
          · exact absurd (h ▸ List.mem_cons_of_mem e (List.mem_map.2 ⟨t, ht, rfl⟩)) hs
          · exact List.mem_singleton.1 ht
        subst hts
        rw [heap_setCell_same _ t.b 1 _ 79 _ (heap_setCell_same w t.b 0 _ 79 _ hb), upd_same, upd_same]
        rfl
      · have hin : t ∈ eS e :: u := by
          rw [List.mem_cons, List.mem_append] at ht
          rcases ht with rfl | ht | ht
          · simp
          · simp [ht]
          · rw [List.mem_singleton.1 ht] at h; exact absurd rfl h
        rw [Below.heap_setCell _ _ _ _ (fun x => h x), Below.heap_setCell _ _ _ _ (fun x => h x), upd_other _ h, upd_other _ h]
        exact hf t hin
    exact (hF.drew.syo _ _).sel _ _
  · have hsm : s.b ∈ e :: (u ++ [s]).map Sh.b := by simp
    exact ((((Mv.refl _ w).setB hsm 0 _).setB hsm 1 _).drew.setB (hmm _ hae) 1 _).setB (by simp) 0 _
end Go.Proofs.Ytkkjppdooaipiaa
