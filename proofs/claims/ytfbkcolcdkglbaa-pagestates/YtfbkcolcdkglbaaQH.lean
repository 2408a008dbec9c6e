/- The document's own Best is Best. -/
import Derived.Test.YtfbkcolcdkglbaaQF
import Derived.Test.YtfbkcolcdkglbaaQG
import Derived.Test.YtfbkcolcdkglbaaQI
import Derived.Test.YtfbkcolcdkglbaaQJ
namespace Go.Proofs.Ytfbkcolcdkglbaa
open Go.RowKit
set_option linter.unusedVariables false

theorem get_call {w : World} {a : Option Addr} {n c : Nat} {zs : List Int} (h : Inn w a n c zs) : ∃ (m : Pg.M) (er : Nat), ((∀ x, Pg.get zs = some x → m = x ∧ er = 0) ∧ (Pg.get zs = none → m = mz ∧ er = 80)) ∧
    ∀ W, Below w.heap.size w W → Calls Try.prog 23 #[.slice a n c] W fun e w' => e = .returned (.tuple #[mv m, .int .u16 (er : Int)]) ∧ Below W.heap.size W w' := by
  cases hO : Pg.get zs with
  | none =>
    refine ⟨mz, 80, ⟨fun x hx => (by cases hx), fun _ => ⟨rfl, rfl⟩⟩, fun W hb => ?_⟩
    refine (rgetm_any (h.below hb)).mono ?_
    rintro e w' ⟨-, hno, hb'⟩
    exact ⟨hno hO, hb'⟩
  | some m =>
    refine ⟨m, 0, ⟨fun x hx => (by cases hx; exact ⟨rfl, rfl⟩), fun hx => (by cases hx)⟩, fun W hb => ?_⟩
    refine (rgetm_any (h.below hb)).mono ?_
    rintro e w' ⟨hy, -, hb'⟩
    exact ⟨hy m hO, hb'⟩
theorem bg_of_get {zs : List Int} {m : Pg.M} (h : Pg.get zs = some m) : bg zs = true := by
  obtain ⟨h1, h2⟩ := Pg.get_some h
  unfold bg
  rw [decide_eq_true_iff]
  have := congrArg (List.take 4) h2
  rw [List.take_take, Pg.mt_mark] at this
  simpa using this
theorem bg_bk {zs : List Int} (h8 : Byts zs) : (bk (zs.take 4)).toList = ([67, 77, 69, 84] : List UInt8) ↔ bg zs = true := by
  have e : (bk [67, 77, 69, 84]).toList = ([67, 77, 69, 84] : List UInt8) := by rw [ByteArray.toList_eq]; rfl
  constructor
  · intro h
    by_cases h' : zs.take 4 = [67, 77, 69, 84]
    · unfold bg; simp [h']
    · have := bk_ne _ _ (h8.take 4) (show Byts [67, 77, 69, 84] by unfold Byts; decide) h'
      rw [h, e] at this
      simp at this
  · intro h
    unfold bg at h
    rw [decide_eq_true_iff] at h
    rw [h, e]
theorem bg_len {zs : List Int} (h : bg zs = true) : 4 ≤ zs.length := by
  unfold bg at h
  rw [decide_eq_true_iff] at h
  have := congrArg List.length h
  rw [List.length_take] at this
  simp at this
  omega
/-- the document's own Best. -/
theorem rbest_any {w : World} {a b : Option Addr} {n c m d : Nat} {xs ys : List Int} (hx : Inn w a n c xs) (hy : Inn w b m d ys) :
    Calls Try.prog 25 #[.slice a n c, .slice b m d] w fun e w' => e = .returned (.tuple #[mv (bst xs ys).1, .int .u16 ((bst xs ys).2 : Int)]) ∧ Below w.heap.size w w' := by
  obtain ⟨⟨g, r, f, p, k⟩, ex, ⟨hxs, hxn⟩, HX⟩ := get_call hx
  obtain ⟨⟨g2, r2, f2, p2, k2⟩, ey, ⟨hys, hyn⟩, HY⟩ := get_call hy
  have hg : g < 18446744073709551616 := by
    cases hO : Pg.get xs with
    | none => have := (hxn hO).1; cases this; omega
    | some x => have e := (hxs x hO).1; have := (Pg.get_some hO).1.fit.1; rw [← e] at this; exact this
  have hg2 : g2 < 18446744073709551616 := by
    cases hO : Pg.get ys with
    | none => have := (hyn hO).1; cases this; omega
    | some x => have e := (hys x hO).1; have := (Pg.get_some hO).1.fit.1; rw [← e] at this; exact this
  -- what stands there
  have one : (((ex : Int) == 0) = true ∧ ((g : Int) % 2 == 0) = true ∧ stm (Pg.get xs) 0 = ⟨g, r, f, p, k⟩ ∧ 1 ≤ g ∧ bg xs = true) ∨ ((((ex : Int) == 0) = false ∨ (((ex : Int) == 0) = true ∧ ((g : Int) % 2 == 0) = false)) ∧ stm (Pg.get xs) 0 = mz) := by
    cases hO : Pg.get xs with
    | none => obtain ⟨-, rfl⟩ := hxn hO; exact .inr ⟨.inl rfl, rfl⟩
    | some x =>
      obtain ⟨e, rfl⟩ := hxs x hO
      have hp := (Pg.get_some hO).1.1
      by_cases h2 : g % 2 = 0
      · refine .inl ⟨rfl, by simp; omega, ?_, by rw [← e] at hp; exact hp, bg_of_get hO⟩
        rw [← e]; exact if_pos h2
      · refine .inr ⟨.inr ⟨rfl, by simp; omega⟩, ?_⟩
        rw [← e]; exact if_neg h2
  have two : (((ey : Int) == 0) = true ∧ ((g2 : Int) % 2 == 1) = true ∧ stm (Pg.get ys) 1 = ⟨g2, r2, f2, p2, k2⟩ ∧ 1 ≤ g2 ∧ bg ys = true) ∨ ((((ey : Int) == 0) = false ∨ (((ey : Int) == 0) = true ∧ ((g2 : Int) % 2 == 1) = false)) ∧ stm (Pg.get ys) 1 = mz) := by
    cases hO : Pg.get ys with
    | none => obtain ⟨-, rfl⟩ := hyn hO; exact .inr ⟨.inl rfl, rfl⟩
    | some x =>
      obtain ⟨e, rfl⟩ := hys x hO
      have hp := (Pg.get_some hO).1.1
      by_cases h2 : g2 % 2 = 1
      · refine .inl ⟨rfl, by simp; omega, ?_, by rw [← e] at hp; exact hp, bg_of_get hO⟩
        rw [← e]; exact if_pos h2
      · refine .inr ⟨.inr ⟨rfl, by simp; omega⟩, ?_⟩
        rw [← e]; exact if_neg h2
  have hne : ∀ {g r f p k : Nat}, 1 ≤ g → (Pg.M.mk g r f p k) ≠ mz := by
    intro g r f p k h e
    have := congrArg Pg.M.g e
    simp [mz] at this
    omega
  rcases one with ⟨o1, o2, s1, hg1, bx⟩ | ⟨ho, s1⟩
  · rcases two with ⟨t1, t2, s2, hgy, by_⟩ | ⟨ht, s2⟩
    · by_cases h : g2 < g
      · have e : bst xs ys = (⟨g, r, f, p, k⟩, 0) := by
          rw [bst, if_neg (by rw [bx]; simp), s1, s2, nwr, if_pos h, if_neg (hne hg1)]
        rw [e]
        exact rbest_xx a b n c m d xs ys w hx hy g r f p k ex g2 r2 f2 p2 k2 ey HX HY hg hg2 o1 o2 t1 t2 (by omega)
      · have e : bst xs ys = (⟨g2, r2, f2, p2, k2⟩, 0) := by
          rw [bst, if_neg (by rw [bx]; simp), s1, s2, nwr, if_neg h, if_neg (hne hgy)]
        rw [e]
        exact rbest_xy a b n c m d xs ys w hx hy g r f p k ex g2 r2 f2 p2 k2 ey HX HY hg hg2 o1 o2 t1 t2 (by omega)
    · have e : bst xs ys = (⟨g, r, f, p, k⟩, 0) := by
        rw [bst, if_neg (by rw [bx]; simp), s1, s2, nwr, if_pos (show mz.g < g by simp [mz]; omega), if_neg (hne hg1)]
      rw [e]
      exact rbest_xn a b n c m d xs ys w hx hy g r f p k ex g2 r2 f2 p2 k2 ey HX HY hg hg2 o1 o2 ht
  · rcases two with ⟨t1, t2, s2, hgy, by_⟩ | ⟨ht, s2⟩
    · have e : bst xs ys = (⟨g2, r2, f2, p2, k2⟩, 0) := by
        rw [bst, if_neg (by rw [by_]; simp), s1, s2, nwr, if_neg (show ¬ g2 < mz.g by simp [mz]), if_neg (hne hgy)]
      rw [e]
      exact rbest_ny a b n c m d xs ys w hx hy g r f p k ex g2 r2 f2 p2 k2 ey HX HY hg hg2 ho t1 t2
    · have en : nwr (stm (Pg.get xs) 0) (stm (Pg.get ys) 1) = mz := by rw [s1, s2]; rfl
      have ka := bg_bk hx.byts
      have kb := bg_bk hy.byts
      cases hbx : bg xs with
      | true =>
        have e : bst xs ys = (mz, 151) := by rw [bst, if_neg (by rw [hbx]; simp), if_pos en]
        rw [e]
        exact rbest_z1 a b n c m d xs ys w hx hy g r f p k ex g2 r2 f2 p2 k2 ey HX HY hg hg2 ho ht ⟨by have := bg_len hbx; rw [hx.len] at this; omega, ka.2 hbx⟩
      | false =>
        have na : ((n : Nat) : Int) < 4 ∨ ((4 : Int) ≤ ((n : Nat) : Int) ∧ ¬ (bk (xs.take 4)).toList = ([67, 77, 69, 84] : List UInt8)) := by
          by_cases h : n < 4
          · exact .inl (by omega)
          · exact .inr ⟨by omega, fun h' => by have := ka.1 h'; rw [hbx] at this; cases this⟩
        cases hby : bg ys with
        | true =>
          have e : bst xs ys = (mz, 151) := by rw [bst, if_neg (by rw [hby]; simp), if_pos en]
          rw [e]
          exact rbest_z2 a b n c m d xs ys w hx hy g r f p k ex g2 r2 f2 p2 k2 ey HX HY hg hg2 ho ht na ⟨by have := bg_len hby; rw [hy.len] at this; omega, kb.2 hby⟩
        | false =>
          have e : bst xs ys = (mz, 150) := by rw [bst, if_pos ⟨hbx, hby⟩]
          rw [e]
          have nb : ((m : Nat) : Int) < 4 ∨ ((4 : Int) ≤ ((m : Nat) : Int) ∧ ¬ (bk (ys.take 4)).toList = ([67, 77, 69, 84] : List UInt8)) := by
            by_cases h : m < 4
            · exact .inl (by omega)
            · exact .inr ⟨by omega, fun h' => by have := kb.1 h'; rw [hby] at this; cases this⟩
          exact rbest_z3 a b n c m d xs ys w hx hy g r f p k ex g2 r2 f2 p2 k2 ey HX HY hg hg2 ho ht na nb
end Go.Proofs.Ytfbkcolcdkglbaa
