/- Pairs that lie below; what comes first behind a place; lent copies. -/
import Derived.Test.YtgohhlngnnmknaaPC
import Derived.OwnWalk
import Derived.WalkLawsBesides
namespace Go.Proofs.Ytgohhlngnnmknaa
open Go.RowKit Go.Maps
set_option linter.unusedVariables false

theorem row_grown {w w' : World} {a : Option Addr} {zs : List Int} {row : Option Nat} (h : Row w a zs) (hg : w.grownBy w' row) (hne : ∀ k, row = some k → w.heap.size ≤ k) : Row w' a zs := by
  rcases h with h | ⟨b, off, rfl, hlt, hc⟩
  · exact .inl h
  · refine .inr ⟨b, off, rfl, Nat.lt_of_lt_of_le hlt hg.size, fun i hi => hg.cell (hc i hi) (fun e => ?_)⟩
    have := hne b e.symm; omega
theorem two_new (w : World) (x y : Value) : ∀ j u, [x, y][j]? = some u → (w.alloc (.cells #[x, y] 5)).cell? ((⟨w.heap.size, 0, none⟩ : Addr).add j) = some u := by
  intro j u h
  rw [Addr.add_lit, World.cell?_alloc_at _ _ _ _ rfl, Nat.zero_add]
  rw [← h]; simp
theorem of_base {w : World} {base : Nat} {v : Value} {n : Nat} {zs : List Int} (h : w.ownsRow base 5 1 v n (zs.map (Value.int .u8))) : Own w v zs := by
  have e : n = zs.length := by have := h.1; simpa using this.symm
  subst e
  refine ⟨by simp, ?_⟩
  rcases h.2 with h | ⟨g, cap, cur, h1, _, h2⟩
  · exact .inl h
  · exact .inr ⟨g, cap, cur, h1, Nat.zero_le _, h2⟩

set_option maxHeartbeats 800000 in
set_option maxRecDepth 1000000 in
theorem lent_any (a : Option Addr) (len cap : Nat) (zs : List Int) (w : World) (hl : zs.length = len) (hbig : len ≤ 140737488351232) (hn : a = none → len = 0 ∧ cap = 0) (hr : Row w a zs) :
    Calls Try.prog 24 #[.slice a len cap] w fun e w' => e = .returned (.slice (some ⟨w.heap.size, 0, none⟩) len (len + 2)) ∧ Own w' (.slice (some ⟨w.heap.size, 0, none⟩) (len + 2) (len + 2)) (zs ++ [91, 92]) ∧ Below w.heap.size w w' := by
  obtain ⟨i0, hi, hz0, hz1, hz2⟩ := info_parts Try.info5
  have HL := hide hl
  have HR := hide hr
  have HN := hide hn
  clear hl hr hn
  go_enter Try.func24, Try.ntmps24
  go_wp2_with (at_make; refine wpList_make_own _ rfl _ _ 60 rfl w.heap.size 5 i0 (.int .u8 0) 1 Try.underlying60 hi hz0 hz1 _ _ _ (len + 2) rfl rfl (by omega) ?b2 ?b3 (Nat.le_refl _) ?_)
  case b2 => rw [hz2]; omega
  case b3 => unfold maxLen; omega
  intro w0 hown0 hgrow0
  have hr0 := row_grown HR.out hgrow0 (by intro k h; cases h)
  have hb0 := (Below.refl w.heap.size w).grown hgrow0 (Nat.le_refl _) (fun k h => by cases h)
  go_wp2_with (first | (at_builtin; refine wpList_append_fits_any _ rfl (.tmp 8) (.tmp 9) 60 rfl w.heap.size 5 i0 1 Try.underlying60 hi hz1 w.heap.size 0 (len + 2) [] rfl hown0 a len cap (zs.map (Value.int .u8)) rfl (by have := HL.out; simp [this]) HN.out hr0.news (ints_oneCell _ _) (by omega) ?_; intro w1 hown1 hgrow1; simp only [Nat.zero_add, List.nil_append] at hown1) | (at_builtin; refine wpList_append_fits _ rfl (.tmp 11) (.tmp 12) 60 rfl w.heap.size 5 i0 1 Try.underlying60 hi hz1 w.heap.size len (len + 2) (zs.map (Value.int .u8)) rfl (hown1.alloc _) ⟨w1.heap.size, 0, none⟩ 2 2 [.int .u8 91, .int .u8 92] rfl rfl (two_new _ _ _) (ints_oneCell .u8 [91, 92]) (by omega) ?_; intro w2 hown2 hgrow2))
  have hb1 := hb0.grown hgrow1 hb0.size (fun k hk => by cases hk; exact Nat.le_refl _)
  have hb2 := (hb1.alloc hb1.size (.cells #[.int .u8 91, .int .u8 92] 5)).grown hgrow2 (by have := hb1.size; simp; omega) (fun k hk => by cases hk; exact Nat.le_refl _)
  go_ret
  refine ⟨rfl, of_base (base := w.heap.size) (n := len + 2) ?_, hb2⟩
  simpa using hown2

theorem lent_own (a : Option Addr) (n c : Nat) (ys : List Int) (w : World) (h : Inn w a n c ys) (hb : n ≤ 140737488351232) :
    Calls Try.prog 24 #[.slice a n c] w fun e w' => ∃ v, e = .returned v ∧ Made w v ys w' := by
  refine (lent_any a n c ys w h.len hb h.bare h.row).mono ?_
  rintro e w' ⟨rfl, ho, hb2⟩
  refine ⟨_, rfl, ?_, fun k hk => by simp [Value.ownBlock] at hk; omega, hb2⟩
  obtain ⟨h1, h2⟩ := ho
  rcases h2 with ⟨e, _⟩ | ⟨g, cap, cur, e, hg0, hg, hnc, hcm, hcs, htk⟩
  · cases e
  · simp only [Value.slice.injEq, Option.some.injEq, Addr.mk.injEq, and_true] at e
    obtain ⟨rfl, hn2, rfl⟩ := e
    have hl := h.len
    refine ⟨by simp, .inr ⟨w.heap.size, n + 2, cur, by rw [hl], Nat.zero_le _, hg, by omega, hcm, hcs, ?_⟩⟩
    have : cur.toList.take (ys.length * 1) = (cur.toList.take ((ys ++ [91, 92]).length * 1)).take (ys.length * 1) := by
      rw [List.take_take, Nat.min_eq_left (by simp)]
    rw [this, htk, List.map_append]
    exact List.take_left' (by simp)

/-- pairs that lie in a row. -/
structure Prs (w : World) (a : Option Addr) (n c : Nat) (us : List En) : Prop where
  len : us.length = n
  bare : a = none → n = 0 ∧ c = 0
  cap : n ≤ c
  max : c ≤ 9223372036854775807
  row : us = [] ∨ ∃ b off, a = some ⟨b, off, none⟩ ∧ b < w.heap.size ∧ ∀ (k : Nat) x, us[k]? = some x → w.cell? ⟨b, off + k * 2, none⟩ = some (.slice x.ka x.e.key.length x.kc) ∧ w.cell? ⟨b, off + k * 2 + 1, none⟩ = some (.slice x.va x.e.val.length x.vc)
  each : ∀ x ∈ us, x.Ok w
theorem Prs.below {w w' : World} {a : Option Addr} {n c : Nat} {us : List En} (h : Prs w a n c us) (hb : Below w.heap.size w w') : Prs w' a n c us := by
  refine ⟨h.len, h.bare, h.cap, h.max, ?_, fun x hx => (h.each x hx).below hb⟩
  rcases h.row with h0 | ⟨b, off, e, hlt, hc⟩
  · exact .inl h0
  · exact .inr ⟨b, off, e, Nat.lt_of_lt_of_le hlt hb.size, fun k x hx => ⟨(hb.cell (p := ⟨b, _, none⟩) hlt).trans (hc k x hx).1, (hb.cell (p := ⟨b, _, none⟩) hlt).trans (hc k x hx).2⟩⟩
theorem Prs.at {w : World} {a : Option Addr} {n c : Nat} {us : List En} (h : Prs w a n c us) {k : Nat} (hk : k < n) : ∃ x b off, us[k]? = some x ∧ a = some ⟨b, off, none⟩ ∧ b < w.heap.size ∧ w.cell? ⟨b, off + k * 2, none⟩ = some (.slice x.ka x.e.key.length x.kc) ∧ w.cell? ⟨b, off + k * 2 + 1, none⟩ = some (.slice x.va x.e.val.length x.vc) ∧ x.Ok w := by
  have hk' : k < us.length := by rw [h.len]; exact hk
  have hx : us[k]? = some us[k] := List.getElem?_eq_getElem hk'
  rcases h.row with h0 | ⟨b, off, e, hlt, hc⟩
  · rw [h0] at hk'; simp at hk'
  · exact ⟨us[k], b, off, hx, e, hlt, (hc k _ hx).1, (hc k _ hx).2, h.each _ (List.mem_of_getElem? hx)⟩
theorem bhU_ref (key frm : List Int) (inn : Bool) : bhU key frm inn = (decide (0 < ordI key frm) || (inn && decide (key = frm))) := by
  have h0 : decide (ordI key frm = 0) = decide (key = frm) := by
    by_cases h : key = frm
    · subst h; simp [ordI_self]
    · rw [decide_eq_false h, decide_eq_false (fun e => h (ordI_zero _ _ e))]
  rw [bhU, h0]
  by_cases hf : frm.length = 0
  · have e : frm = [] := List.eq_nil_of_length_eq_zero hf
    subst e
    cases key with
    | nil => cases inn <;> simp
    | cons x t => cases inn <;> simp [ordI]
  · rw [decide_eq_false hf, Bool.or_false]
theorem bhD_ref (key frm : List Int) (inn : Bool) : bhD key frm inn = (decide (ordI key frm < 0) || (inn && (decide (frm.length = 0) || decide (key = frm)))) := by
  have h0 : decide (ordI key frm = 0) = decide (key = frm) := by
    by_cases h : key = frm
    · subst h; simp [ordI_self]
    · rw [decide_eq_false h, decide_eq_false (fun e => h (ordI_zero _ _ e))]
  rw [bhD, h0, Bool.or_comm (decide (key = frm))]
set_option maxHeartbeats 1600000 in
set_option maxRecDepth 1000000 in
theorem rabove_any (ka fa : Option Addr) (kn kc fn fc : Nat) (key frm : List Int) (inn : Bool) (w : World) (hk : Inn w ka kn kc key) (hf : Inn w fa fn fc frm) :
    Calls Try.prog 77 #[.slice ka kn kc, .slice fa fn fc, .bool inn] w fun e w' => e = .returned (.bool (bhU key frm inn)) ∧ w' = w := by
  have t1 := text_inn hk
  have t2 := text_inn hf
  have l1 := text_less key frm hk.byts hf.byts
  have e1 := text_eq key frm hk.byts hf.byts
  have hg : decide (0 < ordI key frm) = !(decide (ordI key frm < 0) || decide (key = frm)) := by
    by_cases he : key = frm
    · subst he; simp [ordI_self]
    · have h0 : ordI key frm ≠ 0 := fun e => he (ordI_zero _ _ e)
      rw [decide_eq_false he, Bool.or_false]
      by_cases hl : ordI key frm < 0
      · rw [decide_eq_true hl, decide_eq_false (by omega)]; rfl
      · rw [decide_eq_false hl, decide_eq_true (by omega)]; rfl
  rw [bhU_ref, hg]
  clear hk hf hg
  generalize decide (ordI key frm < 0) = A at *
  generalize decide (key = frm) = B at *
  cases A <;> cases B <;> cases inn
  all_goals
    go_enter Try.func77, Try.ntmps77
    go_wp2
    go_ret
    exact ⟨rfl, rfl⟩
set_option maxHeartbeats 1600000 in
set_option maxRecDepth 1000000 in
theorem rbelow_any (ka fa : Option Addr) (kn kc fn fc : Nat) (key frm : List Int) (inn : Bool) (w : World) (hk : Inn w ka kn kc key) (hf : Inn w fa fn fc frm) :
    Calls Try.prog 79 #[.slice ka kn kc, .slice fa fn fc, .bool inn] w fun e w' => e = .returned (.bool (bhD key frm inn)) ∧ w' = w := by
  have t1 := text_inn hk
  have t2 := text_inn hf
  have l1 := text_less key frm hk.byts hf.byts
  have e1 := text_eq key frm hk.byts hf.byts
  have hfl := hf.len
  rw [bhD_ref, hfl]
  clear hk hf hfl
  generalize decide (ordI key frm < 0) = A at *
  generalize decide (key = frm) = B at *
  by_cases hn : fn = 0
  · subst hn
    cases A <;> cases B <;> cases inn
    all_goals
      go_enter Try.func79, Try.ntmps79
      go_wp2
      go_ret
      exact ⟨rfl, rfl⟩
  · have d1 : ((fn : Int) == 0) = false := by simp; omega
    have d3 : decide (fn = 0) = false := decide_eq_false hn
    rw [d3]
    cases A <;> cases B <;> cases inn
    all_goals
      go_enter Try.func79, Try.ntmps79
      go_wp2
      go_ret
      exact ⟨rfl, rfl⟩
end Go.Proofs.Ytgohhlngnnmknaa
