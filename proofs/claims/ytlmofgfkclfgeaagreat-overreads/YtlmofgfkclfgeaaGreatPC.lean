/- Write. -/
import Derived.Test.YtlmofgfkclfgeaaGreatDI
import Derived.WalkKit
import Derived.BigRegion
namespace Go.Proofs.YtlmofgfkclfgeaaGreat
open Go.RowKit Go.Maps
set_option linter.unusedVariables false

theorem hmf (fn : Fn) (first cap : Array Value) (w : World) : (Instr.makeFunc fn first cap).run Tryz.prog w = .ok (.func fn first cap) w := rfl
/-- a disk behind a write of a page that is there. -/
def DS.wr (S : DS) (pg : Nat) (zs : List Int) (N : Nat) : DS := if S.er S.s2 S.l2 = 0 then S.op2.adds (8 * pg) zs N else S.be S.op2
theorem Go1.of_mv {O : Nat → Prop} {p : Nat} {w w' : World} (h : Mv (· = p) w w') (ho : O p) : Go1 O w O w' :=
  ⟨⟨h.os, h.tape, h.output, h.size, fun k hk hn => h.block k hk (fun e => hn (by rw [e]; exact ho))⟩, fun _ h => .inl h⟩
theorem DS.be_good {S : DS} (h : S.Good) {S' : DS} (h' : S'.Good) : (S.be S').Good := by
  unfold DS.be
  split
  · exact h
  · split
    · exact h.out
    · exact h'
theorem cell_new (w : World) (v : Value) (t : TypeId) : (w.alloc (.cells #[v] t)).cell? ⟨w.heap.size, 0, none⟩ = some v := by
  rw [cell_of_row _ _ 0 _ t (0, 0) (heap_alloc_new w _)]; rfl
theorem cell_old {w : World} {b o : Nat} {v : Value} (h : w.cell? ⟨b, o, none⟩ = some v) (ob : Obj) : (w.alloc ob).cell? ⟨b, o, none⟩ = some v := by
  rw [World.cell?_of_block (w := w) (Below.heap_alloc w ob b (World.block_lt_of_cell? w _ h))]; exact h

end Go.Proofs.YtlmofgfkclfgeaaGreat
/- Mathematics: sheets that hang in a ring, by what stands before and behind each. -/
namespace Go.Proofs.YtlmofgfkclfgeaaGreat
set_option linter.unusedVariables false

/-- each but the last has the next one behind it, each but the first the one before it. -/
def Lks (el yo : Nat → Nat) : List Nat → Prop
  | a :: b :: l => yo a = b ∧ el b = a ∧ Lks el yo (b :: l)
  | _ => True
theorem Lks.app {el yo : Nat → Nat} : ∀ {u : List Nat} {a : Nat} {v : List Nat}, Lks el yo (u ++ a :: v) ↔ Lks el yo (u ++ [a]) ∧ Lks el yo (a :: v)
  | [], a, v => by simp [Lks]
  | [x], a, v => by simp [Lks, and_assoc]
  | x :: y :: u, a, v => by
    have := Lks.app (el := el) (yo := yo) (u := y :: u) (a := a) (v := v)
    simp only [List.cons_append] at this
    simp only [List.cons_append, Lks, this, and_assoc]
theorem Lks.congr {el yo el' yo' : Nat → Nat} : ∀ {l : List Nat}, Lks el yo l → (∀ x ∈ l.dropLast, yo' x = yo x) → (∀ x ∈ l.tail, el' x = el x) → Lks el' yo' l
  | [], _, _, _ => trivial
  | [a], _, _, _ => trivial
  | a :: b :: l, h, h1, h2 => by
    obtain ⟨g1, g2, g3⟩ := h
    refine ⟨(h1 a (by simp)).trans g1, (h2 b (by simp)).trans g2, Lks.congr g3 (fun x hx => h1 x (by simp [hx])) (fun x hx => h2 x (by simp at hx ⊢; exact Or.inr hx))⟩
def upd (f : Nat → Nat) (a v : Nat) : Nat → Nat := fun x => if x = a then v else f x
theorem upd_same (f : Nat → Nat) (a v : Nat) : upd f a v a = v := by simp [upd]
theorem upd_other (f : Nat → Nat) {a v x : Nat} (h : x ≠ a) : upd f a v x = f x := by simp [upd, h]
/-- a ring: the end and the sheets, from the one that was used longest ago on. -/
structure Ring (el yo : Nat → Nat) (e : Nat) (bs : List Nat) : Prop where
  nodup : (e :: bs).Nodup
  lks : Lks el yo (e :: (bs ++ [e]))
theorem snoc_of (e : Nat) (u : List Nat) : ∃ u' a, e :: u = u' ++ [a] := ⟨(e :: u).dropLast, (e :: u).getLast (by simp), (List.dropLast_concat_getLast (by simp)).symm⟩
theorem cons_of (v : List Nat) (e : Nat) : ∃ b v', v ++ [e] = b :: v' := by cases v with
  | nil => exact ⟨e, [], rfl⟩
  | cons b v => exact ⟨b, v ++ [e], rfl⟩
/-- what stands before and behind a sheet. -/
theorem Ring.around {el yo : Nat → Nat} {e : Nat} {u v : List Nat} {s : Nat} (h : Ring el yo e (u ++ s :: v)) : el s ∈ e :: u ∧ yo s ∈ e :: v ∧ (u = [] → el s = e) ∧ (v = [] → yo s = e) := by
  have h2 := h.lks
  rw [List.append_assoc, List.cons_append, ← List.cons_append, Lks.app] at h2
  obtain ⟨u', a, hu⟩ := snoc_of e u
  obtain ⟨b, v', hv⟩ := cons_of v e
  obtain ⟨h3, h4⟩ := h2
  rw [hu, List.append_assoc, List.singleton_append, Lks.app] at h3
  rw [hv] at h4
  obtain ⟨-, -, g3, -⟩ := h3
  obtain ⟨g5, g6, -⟩ := h4
  refine ⟨by rw [g3, hu]; simp, ?_, ?_, ?_⟩
  · rw [g5]
    have : b ∈ v ++ [e] := by rw [hv]; simp
    simp at this ⊢
    exact this.symm
  · rintro rfl
    rw [g3]
    cases u' with
    | nil => simp at hu; exact hu.symm
    | cons x u' => simp at hu
  · rintro rfl
    rw [g5]
    simp at hv
    exact hv.1.symm
theorem Ring.leave {el yo : Nat → Nat} {e : Nat} {u v : List Nat} {s : Nat} (h : Ring el yo e (u ++ s :: v)) : Ring (upd el (yo s) (el s)) (upd yo (el s) (yo s)) e (u ++ v) := by
  have hn := h.nodup
  have h2 := h.lks
  rw [List.append_assoc, List.cons_append, ← List.cons_append, Lks.app] at h2
  obtain ⟨u', a, hu⟩ := snoc_of e u
  obtain ⟨b, v', hv⟩ := cons_of v e
  obtain ⟨h3, h4⟩ := h2
  rw [hu, List.append_assoc, List.singleton_append, Lks.app] at h3
  rw [hv] at h4
  obtain ⟨g1, g2, g3, -⟩ := h3
  obtain ⟨g5, g6, g7⟩ := h4
  have hnd : ((u' ++ [a]) ++ s :: v).Nodup := by rw [← hu]; exact hn
  rw [List.nodup_append] at hnd
  obtain ⟨n1, n2, n3⟩ := hnd
  have n2' := (List.nodup_cons.1 n2)
  have he : e ∈ u' ++ [a] := by rw [← hu]; simp
  have ha : a ∈ u' ++ [a] := by simp
  have hb : b ∈ v ++ [e] := by rw [hv]; simp
  have hau : a ∉ u' := fun hx => by
    rw [List.nodup_append] at n1
    exact n1.2.2 a hx a (by simp) rfl
  refine ⟨?_, ?_⟩
  · refine hn.sublist ?_
    simp
  · rw [g3, g5, List.append_assoc, hv, ← List.cons_append, hu, List.append_assoc, List.singleton_append, Lks.app]
    refine ⟨Lks.congr g1 ?_ ?_, upd_same _ _ _, upd_same _ _ _, Lks.congr g7 ?_ ?_⟩
    · intro x hx
      rw [List.dropLast_concat] at hx
      exact upd_other _ (fun e => hau (e ▸ hx))
    · intro x hx
      refine upd_other _ (fun e1 => ?_)
      subst e1
      have hx2 : x ∈ u := by
        have h5 : (u' ++ [a]).tail = u := by rw [← hu]; rfl
        rw [h5] at hx
        exact hx
      have hx3 : x ∈ u' ++ [a] := by rw [← hu]; simp [hx2]
      rw [List.mem_append, List.mem_singleton] at hb
      rcases hb with hb | hb
      · exact n3 x hx3 x (by simp [hb]) rfl
      · subst hb
        exact (List.nodup_cons.1 (hu ▸ n1)).1 hx2
    · intro x hx
      refine upd_other _ (fun e1 => ?_)
      subst e1
      have h5 : (b :: v').dropLast = v := by rw [← hv, List.dropLast_concat]
      rw [h5] at hx
      exact n3 x ha x (by simp [hx]) rfl
    · intro x hx
      simp only [List.tail_cons] at hx
      refine upd_other _ (fun e1 => ?_)
      subst e1
      cases v with
      | nil => simp at hv; rw [hv.2] at hx; simp at hx
      | cons y v =>
        simp only [List.cons_append, List.cons.injEq] at hv
        obtain ⟨rfl, rfl⟩ := hv
        rw [List.mem_append, List.mem_singleton] at hx
        rcases hx with hx | hx
        · exact (List.nodup_cons.1 n2'.2).1 hx
        · subst hx
          exact n3 y he y (by simp) rfl
theorem Ring.hang {el yo : Nat → Nat} {e : Nat} {u : List Nat} {s : Nat} (h : Ring el yo e u) (hs : s ∉ e :: u) : Ring (upd (upd el s (el e)) e s) (upd (upd yo s e) (el e) s) e (u ++ [s]) := by
  have hn := h.nodup
  have h2 := h.lks
  obtain ⟨u', a, hu⟩ := snoc_of e u
  rw [← List.cons_append, hu, List.append_assoc, List.singleton_append, Lks.app] at h2
  obtain ⟨g1, g2, g3, -⟩ := h2
  have ha : a ∈ u' ++ [a] := by simp
  have n1 : (u' ++ [a]).Nodup := hu ▸ hn
  have hau : a ∉ u' := fun hx => by
    rw [List.nodup_append] at n1
    exact n1.2.2 a hx a (by simp) rfl
  have hsu : s ∉ u' ++ [a] := by rw [← hu]; exact hs
  have hse : s ≠ e := fun h => hs (by simp [h])
  have hsa : s ≠ a := fun h => hsu (by simp [h])
  refine ⟨?_, ?_⟩
  · rw [← List.cons_append, List.nodup_append]
    exact ⟨hn, by simp, fun x hx y hy => by simp at hy; subst hy; exact fun h => hs (h ▸ hx)⟩
  · rw [g3, List.append_assoc, ← List.cons_append, hu, List.append_assoc, List.singleton_append, Lks.app]
    refine ⟨Lks.congr g1 ?_ ?_, upd_same _ _ _, ?_, ?_, ?_, trivial⟩
    · intro x hx
      rw [List.dropLast_concat] at hx
      have q1 : x ≠ a := fun e => hau (e ▸ hx)
      have q2 : x ≠ s := fun e => hsu (by simp [← e, hx])
      rw [upd_other _ q1, upd_other _ q2]
    · intro x hx
      have h5 : (u' ++ [a]).tail = u := by rw [← hu]; rfl
      rw [h5] at hx
      have q1 : x ≠ e := fun e1 => (List.nodup_cons.1 hn).1 (e1 ▸ hx)
      have q2 : x ≠ s := fun e1 => hs (by simp [← e1, hx])
      rw [upd_other _ q1, upd_other _ q2]
    · rw [upd_other _ hse, upd_same]
    · rw [upd_other _ hsa, upd_same]
    · exact upd_same _ _ _
/-- a ring with nothing in it. -/
theorem Ring.nil (e : Nat) : Ring (fun _ => e) (fun _ => e) e [] := ⟨by simp, by simp [Lks]⟩
theorem Ring.first {el yo : Nat → Nat} {e s : Nat} {v : List Nat} (h : Ring el yo e (s :: v)) : yo e = s := h.lks.1
theorem Ring.congr {el yo el' yo' : Nat → Nat} {e : Nat} {u : List Nat} (h : Ring el yo e u) (h1 : ∀ x ∈ e :: u, yo' x = yo x) (h2 : ∀ x ∈ e :: u, el' x = el x) : Ring el' yo' e u := by
  refine ⟨h.nodup, h.lks.congr (fun x hx => h1 x ?_) (fun x hx => h2 x ?_)⟩
  · have := List.dropLast_subset _ hx
    simp at this ⊢
    rcases this with h | h | h <;> simp [h]
  · simp at hx ⊢
    exact hx.symm
end Go.Proofs.YtlmofgfkclfgeaaGreat
/- Sheets in memory: a sheet leaves the ring, a sheet is hung into it. -/
namespace Go.Proofs.YtlmofgfkclfgeaaGreat
open Go.RowKit Go.Maps
set_option linter.unusedVariables false

theorem Mv.setB {O : Nat → Prop} {w w' : World} (h : Mv O w w') {b : Nat} (hb : O b) (i : Nat) (v : Value) : Mv O w (w'.setCell ⟨b, i, none⟩ v) :=
  ⟨h.os, h.tape, h.output, by simpa [World.setCell] using h.size, fun k hk ho => by
    have hne : k ≠ b := fun e => ho (by rw [e]; exact hb)
    rw [set_other _ _ _ _ _ hne]
    exact h.block k hk ho⟩
/-- a sheet: its block, its page's number and kind, its payload and where that lies. -/
structure Sh where
  b : Nat
  n : Nat
  k : Nat
  v : Value
  pl : List Int
/-- the end of the ring. -/
def eS (e : Nat) : Sh := ⟨e, 0, 0, .slice none 0 0, []⟩
/-- a sheet's cells. -/
def shc (x y n k : Nat) (v : Value) : Array Value := #[.pointer (some ⟨x, 0, none⟩), .pointer (some ⟨y, 0, none⟩), .int .u32 (n : Int), .int .u8 (k : Int), v]
/-- sheets that lie in memory. -/
def Fam (w : World) (M : List Sh) (el yo : Nat → Nat) : Prop := ∀ s ∈ M, w.heap[s.b]? = some (.cells (shc (el s.b) (yo s.b) s.n s.k s.v) 152 (0, 0))
variable {w w' : World} {M : List Sh} {el yo : Nat → Nat}
theorem Fam.c (h : Fam w M el yo) {s : Sh} (hs : s ∈ M) : w.cell? ⟨s.b, 0, none⟩ = some (.pointer (some ⟨el s.b, 0, none⟩)) ∧ w.cell? ⟨s.b, 1, none⟩ = some (.pointer (some ⟨yo s.b, 0, none⟩)) ∧ w.cell? ⟨s.b, 2, none⟩ = some (.int .u32 (s.n : Int)) ∧ w.cell? ⟨s.b, 3, none⟩ = some (.int .u8 (s.k : Int)) ∧ w.cell? ⟨s.b, 4, none⟩ = some s.v := by
  have := h s hs
  simp [World.cell?, this, shc]
theorem Fam.f (h : Fam w M el yo) {s : Sh} (hs : s ∈ M) (i : Nat) : w.frozen? ⟨s.b, i, none⟩ = false := by
  have := h s hs
  simp [World.frozen?, this]
theorem Fam.syo (h : Fam w M el yo) (a c : Nat) : Fam (w.setCell ⟨a, 1, none⟩ (.pointer (some ⟨c, 0, none⟩))) M el (upd yo a c) := by
  intro s hs
  by_cases e : s.b = a
  · subst e
    rw [heap_setCell_same w s.b 1 _ 152 _ (h s hs), upd_same]
    rfl
  · rw [Below.heap_setCell _ _ _ _ (fun h => e h), upd_other _ e]
    exact h s hs
theorem Fam.sel (h : Fam w M el yo) (a c : Nat) : Fam (w.setCell ⟨a, 0, none⟩ (.pointer (some ⟨c, 0, none⟩))) M (upd el a c) yo := by
  intro s hs
  by_cases e : s.b = a
  · subst e
    rw [heap_setCell_same w s.b 0 _ 152 _ (h s hs), upd_same]
    rfl
  · rw [Below.heap_setCell _ _ _ _ (fun h => e h), upd_other _ e]
    exact h s hs
theorem Fam.drew (h : Fam w M el yo) : Fam w.drew M el yo := h
theorem Fam.sub {M' : List Sh} (h : Fam w M el yo) (hs : ∀ s ∈ M', s ∈ M) : Fam w M' el yo := fun s hm => h s (hs s hm)

set_option maxHeartbeats 1600000 in
set_option maxRecDepth 1000000 in
theorem leave_any (b a c : Nat) (va vc : Value) (w : World) (h0 : w.cell? ⟨b, 0, none⟩ = some (.pointer (some ⟨a, 0, none⟩))) (h1 : w.cell? ⟨b, 1, none⟩ = some (.pointer (some ⟨c, 0, none⟩)))
    (ha : w.cell? ⟨a, 1, none⟩ = some va) (hc : w.cell? ⟨c, 0, none⟩ = some vc) (fa : w.frozen? ⟨a, 1, none⟩ = false) (fc : w.frozen? ⟨c, 0, none⟩ = false) :
    Calls Tryz.prog 83 #[.pointer (some ⟨b, 0, none⟩)] w fun e w' => e = .returned (.tuple #[]) ∧ w' = (w.drew.setCell ⟨a, 1, none⟩ (.pointer (some ⟨c, 0, none⟩))).setCell ⟨c, 0, none⟩ (.pointer (some ⟨a, 0, none⟩)) := by
  go_enter Tryz.func83, Tryz.ntmps83
  go_wp2
  go_region
  go_end0
  exact ⟨rfl, rfl⟩
set_option maxHeartbeats 1600000 in
set_option maxRecDepth 1000000 in
theorem hang_any (s e a : Nat) (v0 v1 va : Value) (w : World) (hne : s ≠ e) (hsa : s ≠ a) (h0 : w.cell? ⟨e, 0, none⟩ = some (.pointer (some ⟨a, 0, none⟩))) (hs0 : w.cell? ⟨s, 0, none⟩ = some v0) (hs1 : w.cell? ⟨s, 1, none⟩ = some v1)
    (ha : w.cell? ⟨a, 1, none⟩ = some va) (f0 : w.frozen? ⟨s, 0, none⟩ = false) (f1 : w.frozen? ⟨s, 1, none⟩ = false) (fa : w.frozen? ⟨a, 1, none⟩ = false) (fe : w.frozen? ⟨e, 0, none⟩ = false) :
    Calls Tryz.prog 84 #[.pointer (some ⟨s, 0, none⟩), .pointer (some ⟨e, 0, none⟩)] w fun ed w' => ed = .returned (.tuple #[]) ∧ w' = ((((w.setCell ⟨s, 0, none⟩ (.pointer (some ⟨a, 0, none⟩))).setCell ⟨s, 1, none⟩ (.pointer (some ⟨e, 0, none⟩))).drew.setCell ⟨a, 1, none⟩ (.pointer (some ⟨s, 0, none⟩))).setCell ⟨e, 0, none⟩ (.pointer (some ⟨s, 0, none⟩))) := by
  go_enter Tryz.func84, Tryz.ntmps84
  go_wp2
  go_region
  go_end0
  exact ⟨rfl, rfl⟩
/-- the leaving of a sheet, as the ring has it. -/
theorem leave_fam {e : Nat} {u v : List Sh} {s : Sh} (hf : Fam w (eS e :: (u ++ s :: v)) el yo) (hr : Ring el yo e ((u ++ s :: v).map Sh.b)) :
    Calls Tryz.prog 83 #[.pointer (some ⟨s.b, 0, none⟩)] w fun ed w' => ed = .returned (.tuple #[]) ∧ Fam w' (eS e :: (u ++ s :: v)) (upd el (yo s.b) (el s.b)) (upd yo (el s.b) (yo s.b)) ∧ Ring (upd el (yo s.b) (el s.b)) (upd yo (el s.b) (yo s.b)) e ((u ++ v).map Sh.b) ∧ Mv (fun k => k ∈ e :: (u ++ s :: v).map Sh.b) w w' := by
  have hr' := hr
  rw [List.map_append, List.map_cons] at hr'
  obtain ⟨h1, h2, -, -⟩ := hr'.around
  have hin : ∀ x, x ∈ e :: u.map Sh.b ∨ x ∈ e :: v.map Sh.b → ∃ t ∈ eS e :: (u ++ s :: v), t.b = x := by
    intro x hx
    simp only [List.mem_cons, List.mem_map] at hx
    rcases hx with (rfl | ⟨t, ht, rfl⟩) | (rfl | ⟨t, ht, rfl⟩)
    · exact ⟨eS x, by simp, rfl⟩
    · exact ⟨t, by simp [ht], rfl⟩
    · exact ⟨eS x, by simp, rfl⟩
    · exact ⟨t, by simp [ht], rfl⟩
  obtain ⟨ta, hta, ea⟩ := hin _ (Or.inl h1)
  obtain ⟨tc, htc, ec⟩ := hin _ (Or.inr h2)
  have hs : s ∈ eS e :: (u ++ s :: v) := by simp
  have hmem : ∀ t ∈ eS e :: (u ++ s :: v), t.b ∈ e :: (u ++ s :: v).map Sh.b := by
    intro t ht
    rcases List.mem_cons.1 ht with rfl | ht
    · exact List.mem_cons_self ..
    · exact List.mem_cons_of_mem _ (List.mem_map.2 ⟨t, ht, rfl⟩)
  refine (leave_any s.b (el s.b) (yo s.b) _ _ w (hf.c hs).1 (hf.c hs).2.1 (ea ▸ (hf.c hta).2.1) (ec ▸ (hf.c htc).1) (ea ▸ hf.f hta 1) (ec ▸ hf.f htc 0)).mono ?_
  rintro ed w' ⟨rfl, rfl⟩
  refine ⟨rfl, (hf.drew.syo _ _).sel _ _, by rw [List.map_append]; exact hr'.leave, ?_⟩
  exact (Mv.refl _ w).drew.setB (ea ▸ hmem ta hta) 1 _ |>.setB (ec ▸ hmem tc htc) 0 _
/-- a sheet is hung into the ring, just ahead of the end. -/
theorem hang_fam {e : Nat} {u : List Sh} {s : Sh} (v0 v1 : Value) (hf : Fam w (eS e :: u) el yo) (hr : Ring el yo e (u.map Sh.b)) (hs : s.b ∉ e :: u.map Sh.b) (hb : w.heap[s.b]? = some (.cells #[v0, v1, .int .u32 (s.n : Int), .int .u8 (s.k : Int), s.v] 152 (0, 0))) :
    Calls Tryz.prog 84 #[.pointer (some ⟨s.b, 0, none⟩), .pointer (some ⟨e, 0, none⟩)] w fun ed w' => ed = .returned (.tuple #[]) ∧ (∃ el' yo', Fam w' (eS e :: (u ++ [s])) el' yo' ∧ Ring el' yo' e ((u ++ [s]).map Sh.b)) ∧ Mv (fun k => k ∈ e :: (u ++ [s]).map Sh.b) w w' := by
  have he : eS e ∈ eS e :: u := by simp
  have hae : el e ∈ e :: u.map Sh.b := by
    have h2 := hr.lks
    obtain ⟨u', a, hu⟩ := snoc_of e (u.map Sh.b)
    rw [← List.cons_append, hu, List.append_assoc, List.singleton_append, Lks.app] at h2
    rw [h2.2.2.1, hu]
    simp
  obtain ⟨ta, hta, ea⟩ : ∃ t ∈ eS e :: u, t.b = el e := by
    rcases List.mem_cons.1 hae with h | h
    · exact ⟨eS e, he, h.symm⟩
    · obtain ⟨t, ht, e1⟩ := List.mem_map.1 h
      exact ⟨t, by simp [ht], e1⟩
  have hse : s.b ≠ e := fun h => hs (by simp [h])
  have hsa : s.b ≠ el e := fun h => hs (h ▸ hae)
  have c0 : w.cell? ⟨s.b, 0, none⟩ = some v0 := by simp [World.cell?, hb]
  have c1 : w.cell? ⟨s.b, 1, none⟩ = some v1 := by simp [World.cell?, hb]
  have ff : ∀ i, w.frozen? ⟨s.b, i, none⟩ = false := fun i => by simp [World.frozen?, hb]
  refine (hang_any s.b e (el e) v0 v1 _ w hse hsa (hf.c he).1 c0 c1 (ea ▸ (hf.c hta).2.1) (ff 0) (ff 1) (ea ▸ hf.f hta 1) (hf.f he 0)).mono ?_
  rintro ed w' ⟨rfl, rfl⟩
  have hmm : ∀ x, x ∈ e :: u.map Sh.b → x ∈ e :: (u ++ [s]).map Sh.b := by
    intro x hx
    rw [List.map_append]
    simp only [List.mem_cons, List.mem_append] at hx ⊢
    rcases hx with h | h
    · exact Or.inl h
    · exact Or.inr (Or.inl h)
  refine ⟨rfl, ⟨upd (upd el s.b (el e)) e s.b, upd (upd yo s.b e) (el e) s.b, ?_, by rw [List.map_append]; exact hr.hang hs⟩, ?_⟩
  · have hF : Fam ((w.setCell ⟨s.b, 0, none⟩ (.pointer (some ⟨el e, 0, none⟩))).setCell ⟨s.b, 1, none⟩ (.pointer (some ⟨e, 0, none⟩))) (eS e :: (u ++ [s])) (upd el s.b (el e)) (upd yo s.b e) := by
      intro t ht
      by_cases h : t.b = s.b
      · have hts : t = s := by
          rw [List.mem_cons, List.mem_append] at ht
          rcases ht with rfl | ht | ht
          · exact absurd h.symm hse
          · exact absurd (h ▸ List.mem_cons_of_mem e (List.mem_map.2 ⟨t, ht, rfl⟩)) hs
          · exact List.mem_singleton.1 ht
        subst hts
        rw [heap_setCell_same _ t.b 1 _ 152 _ (heap_setCell_same w t.b 0 _ 152 _ hb), upd_same, upd_same]
        rfl
      · have hin : t ∈ eS e :: u := by
          rw [List.mem_cons, List.mem_append] at ht
          rcases ht with rfl | ht | ht
          · simp
          · simp [ht]
          · rw [List.mem_singleton.1 ht] at h; exact absurd rfl h
        rw [Below.heap_setCell _ _ _ _ (fun x => h x), Below.heap_setCell _ _ _ _ (fun x => h x), upd_other _ h, upd_other _ h]
        exact hf t hin
    exact (hF.drew.syo _ _).sel _ _
  · have hsm : s.b ∈ e :: (u ++ [s]).map Sh.b := by simp
    exact ((((Mv.refl _ w).setB hsm 0 _).setB hsm 1 _).drew.setB (hmm _ hae) 1 _).setB (by simp) 0 _
end Go.Proofs.YtlmofgfkclfgeaaGreat
