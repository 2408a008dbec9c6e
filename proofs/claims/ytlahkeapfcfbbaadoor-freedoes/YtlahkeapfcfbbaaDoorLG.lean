/- A list that lies behind a beginning: its calls as the statements make them. -/
import Derived.Test.YtlahkeapfcfbbaaDoorLF
namespace Go.Proofs.YtlahkeapfcfbbaaDoor
open Go.RowKit Go.Maps
set_option linter.unusedVariables false
/-- a list at l has the pages M; nothing that was there at w0 has turned, and what the list owns is newer. -/
def Fl (w0 w : World) (l : Nat) (M : List Pg) : Prop := ∃ O, LsAt w l M O ∧ Below w0.heap.size w0 w ∧ ∀ k, O k → w0.heap.size ≤ k
variable {w0 w w' : World} {l : Nat} {M : List Pg}
theorem Fl.bel (h : Fl w0 w l M) : Below w0.heap.size w0 w := by obtain ⟨O, _, h2, _⟩ := h; exact h2
theorem Fl.nd (h : Fl w0 w l M) : (M.map (·.1)).Nodup := by obtain ⟨O, h1, _, _⟩ := h; exact h1.nd
theorem Fl.rg (h : Fl w0 w l M) : ∀ x ∈ M, 2 ≤ x.1 ∧ x.1 ≤ 16383 := by obtain ⟨O, h1, _, _⟩ := h; exact h1.rg
theorem Fl.perm {M' : List Pg} (h : Fl w0 w l M) (hp : M.Perm M') : Fl w0 w l M' := by obtain ⟨O, h1, h2, h3⟩ := h; exact ⟨O, h1.perm hp, h2, h3⟩
theorem Fl.on (h : Fl w0 w l M) (hb : Below w.heap.size w w') : Fl w0 w' l M := by
  obtain ⟨O, h1, h2, h3⟩ := h
  exact ⟨O, h1.below hb, h2.trans (hb.mono h2.size), h3⟩
theorem Fl.go {O O' : Nat → Prop} {M' : List Pg} (h1 : Below w0.heap.size w0 w) (h2 : ∀ k, O k → w0.heap.size ≤ k) (h3 : LsAt w' l M' O') (h4 : Go1 O w O' w') : Fl w0 w' l M' :=
  ⟨O', h3, h1.trans (h4.mv.below h1.size h2), fun k hk => (h4.own k hk).elim (h2 k) (fun hl => Nat.le_trans h1.size hl)⟩
theorem new_fl (w : World) : Calls Tryd.prog 4 #[] w fun e w' => ∃ l, e = .returned (.pointer (some ⟨l, 0, none⟩)) ∧ Fl w w' l [] := by
  refine (new_any w).mono ?_
  rintro e w' ⟨l, O, rfl, h1, h2, h3⟩
  exact ⟨l, rfl, O, h1, h2, h3⟩
theorem len_fl (h : Fl w0 w l M) (hf : M.length ≤ 900000) : Calls Tryd.prog 18 #[.pointer (some ⟨l, 0, none⟩)] w fun e w' => e = .returned (.int .i64 (M.length : Int)) ∧ Fl w0 w' l M := by
  have h' := h
  obtain ⟨O, h1, h2, h3⟩ := h
  refine (len_any h1 hf).mono ?_
  rintro e w' ⟨rfl, hs⟩
  exact ⟨rfl, h'.on hs.below⟩
theorem may_fl (h : Fl w0 w l M) (hf : M.length ≤ 900000) (G : Int) : Calls Tryd.prog 12 #[.pointer (some ⟨l, 0, none⟩), .int .u64 G] w fun e w' => e = .returned (.int .i64 ((M.countP (fun x => decide (x.2 ≤ G)) : Nat) : Int)) ∧ Fl w0 w' l M := by
  have h' := h
  obtain ⟨O, h1, h2, h3⟩ := h
  refine (may_any h1 hf G).mono ?_
  rintro e w' ⟨rfl, hs⟩
  exact ⟨rfl, h'.on hs⟩
/-- may a page be added? -/
def adds (M : List Pg) (n : Nat) : Bool := decide (2 ≤ n) && decide (n ≤ 16383) && decide ((n : Int) ∉ M.map (·.1))
theorem add_fl (h : Fl w0 w l M) (n : Nat) (hn : n ≤ 4294967295) (G : Int) (hf : M.length ≤ 900000) : Calls Tryd.prog 6 #[.pointer (some ⟨l, 0, none⟩), .int .u32 (n : Int), .int .u64 G] w fun e w' => e = .returned (.int .u16 (if adds M n then 0 else 110)) ∧ Fl w0 w' l (if adds M n then ((n : Int), G) :: M else M) := by
  have h' := h
  obtain ⟨O, h1, h2, h3⟩ := h
  by_cases hr : 2 ≤ n ∧ n ≤ 16383
  · by_cases hm : (n : Int) ∈ M.map (·.1)
    · have e : adds M n = false := by simp only [adds, decide_eq_false (not_not_intro hm), Bool.and_false]
      rw [e]
      refine (add_there h1 n hr G hm).mono ?_
      rintro e w' ⟨rfl, hs⟩
      exact ⟨rfl, h'.on hs.below⟩
    · have e : adds M n = true := by simp only [adds, decide_eq_true hr.1, decide_eq_true hr.2, decide_eq_true hm, Bool.and_true]
      rw [e]
      refine (add_ok h1 n hr G hm hf).mono ?_
      rintro e w' ⟨rfl, O', h4, h5⟩
      exact ⟨rfl, Fl.go h2 h3 h4 h5⟩
  · have e : adds M n = false := by
      unfold adds
      rw [Bool.and_eq_false_iff, Bool.and_eq_false_iff, decide_eq_false_iff_not, decide_eq_false_iff_not]
      left; omega
    rw [e]
    refine (add_off h1 n hn G hr).mono ?_
    rintro e w' ⟨rfl, hs⟩
    exact ⟨rfl, h'.on hs.below⟩
theorem take_fl_none (h : Fl w0 w l M) (G : Int) (ho : ∀ x ∈ M, G < x.2) (hf : M.length ≤ 900000) : Calls Tryd.prog 8 #[.pointer (some ⟨l, 0, none⟩), .int .u64 G] w fun e w' => e = .returned (.tuple #[.int .u32 0, .bool false]) ∧ Fl w0 w' l M := by
  obtain ⟨O, h1, h2, h3⟩ := h
  refine (take_none h1 G ho hf).mono ?_
  rintro e w' ⟨rfl, O', h4, h5⟩
  exact ⟨rfl, Fl.go h2 h3 h4 h5⟩
theorem take_fl_some (h : Fl w0 w l M) (G : Int) (ho : ∃ x ∈ M, x.2 ≤ G) (hf : M.length ≤ 900000) : Calls Tryd.prog 8 #[.pointer (some ⟨l, 0, none⟩), .int .u64 G] w fun e w' => ∃ x M', e = .returned (.tuple #[.int .u32 x.1, .bool true]) ∧ M.Perm (x :: M') ∧ x.2 ≤ G ∧ (∀ y ∈ M, y.2 ≤ G → x.1 ≤ y.1) ∧ Fl w0 w' l M' := by
  obtain ⟨O, h1, h2, h3⟩ := h
  refine (take_some h1 G ho hf).mono ?_
  rintro e w' ⟨x, M', rfl, h4, h5, h6, O', h7, h8⟩
  exact ⟨x, M', rfl, h4, h5, h6, Fl.go h2 h3 h7 h8⟩
theorem nodup_eq {M : List Pg} (h : (M.map (·.1)).Nodup) {x y : Pg} (hx : x ∈ M) (hy : y ∈ M) (e : x.1 = y.1) : x = y := by
  induction M with
  | nil => cases hx
  | cons z M ih =>
    rw [List.map_cons, List.nodup_cons] at h
    rcases List.mem_cons.1 hx with h1 | h1 <;> rcases List.mem_cons.1 hy with h2 | h2
    · rw [h1, h2]
    · exact absurd (List.mem_map.2 ⟨y, h2, by rw [← e, h1]⟩) h.1
    · exact absurd (List.mem_map.2 ⟨x, h1, by rw [e, h2]⟩) h.1
    · exact ih h.2 h1 h2
/-- the one that is taken, where one knows it. -/
theorem take_fl_at (h : Fl w0 w l M) (G : Int) (x0 : Pg) (M0 : List Pg) (hp : M.Perm (x0 :: M0)) (hg : x0.2 ≤ G) (hl : ∀ y ∈ M, y.2 ≤ G → x0.1 ≤ y.1) (hf : M.length ≤ 900000) : Calls Tryd.prog 8 #[.pointer (some ⟨l, 0, none⟩), .int .u64 G] w fun e w' => e = .returned (.tuple #[.int .u32 x0.1, .bool true]) ∧ Fl w0 w' l M0 := by
  have hx0 : x0 ∈ M := hp.mem_iff.2 (List.mem_cons_self ..)
  refine (take_fl_some h G ⟨x0, hx0, hg⟩ hf).mono ?_
  rintro e w' ⟨x, M', rfl, h4, h5, h6, h7⟩
  have hx : x ∈ M := h4.mem_iff.2 (List.mem_cons_self ..)
  have e1 : x = x0 := nodup_eq h.nd hx hx0 (Int.le_antisymm (h6 x0 hx0 hg) (hl x hx h5))
  subst e1
  exact ⟨rfl, h7.perm ((h4.symm.trans hp).cons_inv)⟩
end Go.Proofs.YtlahkeapfcfbbaaDoor
