/- Mathematics: what is seen first behind a place is the first one behind it of what lies below as it is changed. -/
import Derived.Test.YtfcebpenjdhgbaaEQ
import Derived.Test.YtfcebpenjdhgbaaRI
namespace Go.Proofs.Ytfcebpenjdhgbaa
open Go.RowKit Go.Maps
set_option linter.unusedVariables false

theorem mg_sub {es us : List Ee} {x : Ee} (h : x ∈ mg es us) : (x ∈ es ∧ x.del = false) ∨ x ∈ us := by
  fun_induction mg es us with
  | case1 us => exact .inr h
  | case2 e es ih =>
    rcases List.mem_append.1 h with h | h
    · unfold kp at h
      split at h
      · simp at h
      · rename_i hd
        simp at h
        subst h
        exact .inl ⟨List.mem_cons_self, by simpa using hd⟩
    · rcases ih h with h | h
      · exact .inl ⟨List.mem_cons_of_mem _ h.1, h.2⟩
      · simp at h
  | case3 e es u us hlt ih =>
    rcases List.mem_cons.1 h with rfl | h
    · exact .inr List.mem_cons_self
    · rcases ih h with h | h
      · exact .inl h
      · exact .inr (List.mem_cons_of_mem _ h)
  | case4 e es u us hlt ih =>
    rcases List.mem_append.1 h with h | h
    · unfold kp at h
      split at h
      · simp at h
      · rename_i hd
        simp at h
        subst h
        exact .inl ⟨List.mem_cons_self, by simpa using hd⟩
    · rcases ih h with h | h
      · exact .inl ⟨List.mem_cons_of_mem _ h.1, h.2⟩
      · split at h
        · exact .inr (List.mem_cons_of_mem _ h)
        · exact .inr h
theorem ris_tail {e : Ee} {es : List Ee} (h : Ris (e :: es)) : Ris es := (List.pairwise_cons.1 h).2
theorem ris_head {e : Ee} {es : List Ee} (h : Ris (e :: es)) : ∀ x ∈ es, ordI e.key x.key < 0 := (List.pairwise_cons.1 h).1
theorem ord_ne {a b : List Int} (h : ordI a b < 0) : a ≠ b := fun e => by rw [e, ordI_self] at h; omega
theorem ord_gt {a b : List Int} (h : ¬ ordI a b < 0) (hne : ¬ a = b) : ordI b a < 0 := by
  have h0 : ordI a b ≠ 0 := fun e => hne (ordI_zero _ _ e)
  have := ordI_anti a b
  omega
theorem kp_ris {e : Ee} {l : List Ee} (h : Ris l) (hl : ∀ x ∈ l, ordI e.key x.key < 0) : Ris (kp e ++ l) := by
  unfold kp
  split
  · exact h
  · exact List.pairwise_cons.2 ⟨hl, h⟩
theorem mg_ris {es us : List Ee} (he : Ris es) (hu : Ris us) : Ris (mg es us) := by
  fun_induction mg es us with
  | case1 us => exact hu
  | case2 e es ih =>
    refine kp_ris (ih (ris_tail he) hu) fun x hx => ?_
    rcases mg_sub hx with h | h
    · exact ris_head he x h.1
    · simp at h
  | case3 e es u us hlt ih =>
    refine List.pairwise_cons.2 ⟨fun x hx => ?_, ih he (ris_tail hu)⟩
    rcases mg_sub hx with h | h
    · rcases List.mem_cons.1 h.1 with rfl | h
      · exact hlt
      · exact ordI_trans_lt _ _ _ hlt (Int.le_of_lt (ris_head he x h))
    · exact ris_head hu x h
  | case4 e es u us hlt ih =>
    have hu' : Ris (if u.key = e.key then us else u :: us) := by
      split
      · exact ris_tail hu
      · exact hu
    refine kp_ris (ih (ris_tail he) hu') fun x hx => ?_
    rcases mg_sub hx with h | h
    · exact ris_head he x h.1
    · split at h
      · rename_i hk
        rw [← hk]
        exact ris_head hu x h
      · rename_i hk
        have h1 := ord_gt hlt hk
        rcases List.mem_cons.1 h with rfl | h
        · exact h1
        · exact ordI_trans_lt _ _ _ h1 (Int.le_of_lt (ris_head hu x h))
theorem mem_kp {e x : Ee} : x ∈ kp e ↔ x = e ∧ e.del = false := by
  unfold kp
  split
  · rename_i h; simp [h]
  · rename_i h; simp [h]
theorem mg_mem {es us : List Ee} (he : Ris es) (hu : Ris us) (x : Ee) : x ∈ mg es us ↔ (x ∈ es ∧ x.del = false) ∨ (x ∈ us ∧ ∀ e ∈ es, e.key ≠ x.key) := by
  fun_induction mg es us with
  | case1 us => simp
  | case2 e es ih =>
    rw [List.mem_append, ih (ris_tail he) hu, mem_kp]
    constructor
    · rintro (⟨rfl, h⟩ | h | h)
      · exact .inl ⟨List.mem_cons_self, h⟩
      · exact .inl ⟨List.mem_cons_of_mem _ h.1, h.2⟩
      · simp at h
    · rintro (⟨h, hd⟩ | h)
      · rcases List.mem_cons.1 h with rfl | h
        · exact .inl ⟨rfl, hd⟩
        · exact .inr (.inl ⟨h, hd⟩)
      · simp at h
  | case3 e es u us hlt ih =>
    rw [List.mem_cons, ih he (ris_tail hu)]
    constructor
    · rintro (rfl | h | ⟨h, hn⟩)
      · refine .inr ⟨List.mem_cons_self, fun z hz => ?_⟩
        rcases List.mem_cons.1 hz with rfl | hz
        · exact (ord_ne hlt).symm
        · exact (ord_ne (ordI_trans_lt _ _ _ hlt (Int.le_of_lt (ris_head he z hz)))).symm
      · exact .inl h
      · exact .inr ⟨List.mem_cons_of_mem _ h, hn⟩
    · rintro (h | ⟨h, hn⟩)
      · exact .inr (.inl h)
      · rcases List.mem_cons.1 h with rfl | h
        · exact .inl rfl
        · exact .inr (.inr ⟨h, hn⟩)
  | case4 e es u us hlt ih =>
    have hu' : Ris (if u.key = e.key then us else u :: us) := by
      split
      · exact ris_tail hu
      · exact hu
    simp only [dite_eq_ite] at ih
    rw [List.mem_append, ih (ris_tail he) hu', mem_kp]
    have hin : ∀ x ∈ (if u.key = e.key then us else u :: us), e.key ≠ x.key := by
      intro x hx
      split at hx
      · rename_i hk
        rw [← hk]
        exact ord_ne (ris_head hu x hx)
      · rename_i hk
        have h1 := ord_gt hlt hk
        rcases List.mem_cons.1 hx with rfl | hx
        · exact ord_ne h1
        · exact ord_ne (ordI_trans_lt _ _ _ h1 (Int.le_of_lt (ris_head hu x hx)))
    constructor
    · rintro (⟨rfl, h⟩ | h | ⟨h, hn⟩)
      · exact .inl ⟨List.mem_cons_self, h⟩
      · exact .inl ⟨List.mem_cons_of_mem _ h.1, h.2⟩
      · refine .inr ⟨?_, fun z hz => ?_⟩
        · split at h
          · exact List.mem_cons_of_mem _ h
          · exact h
        · rcases List.mem_cons.1 hz with rfl | hz
          · exact hin x h
          · exact hn z hz
    · rintro (⟨h, hd⟩ | ⟨h, hn⟩)
      · rcases List.mem_cons.1 h with rfl | h
        · exact .inl ⟨rfl, hd⟩
        · exact .inr (.inl ⟨h, hd⟩)
      · refine .inr (.inr ⟨?_, fun z hz => hn z (List.mem_cons_of_mem _ hz)⟩)
        split
        · rename_i hk
          rcases List.mem_cons.1 h with rfl | h
          · exact absurd hk.symm (hn e List.mem_cons_self)
          · exact h
        · exact h
/-- what a way through keys is. -/
structure Way (bh : List Int → List Int → Bool → Bool) : Prop where
  irr : ∀ k, bh k k false = false
  trans : ∀ {z y x : List Int} {i : Bool}, bh z y false = true → bh y x i = true → bh z x i = true
  tot : ∀ {x y : List Int}, bh x y false = false → bh y x false = false → x = y
theorem wayU : Way bhU := ⟨bhU_self, bhU_trans, fun {x y} h1 h2 => by
  have a1 : ¬ 0 < ordI x y := by simpa [bhU] using h1
  have a2 : ¬ 0 < ordI y x := by simpa [bhU] using h2
  have := ordI_anti x y
  exact ordI_zero x y (by omega)⟩
theorem wayD : Way bhD := ⟨bhD_self, bhD_trans, fun {x y} h1 h2 => by
  have a1 : ¬ ordI x y < 0 := by simpa [bhD] using h1
  have a2 : ¬ ordI y x < 0 := by simpa [bhD] using h2
  have := ordI_anti x y
  exact ordI_zero x y (by omega)⟩
/-- a list on its way. -/
def Onw (bh : List Int → List Int → Bool → Bool) (l : List Ee) : Prop := l.Pairwise (fun a b => bh b.key a.key false = true)
theorem onwU {l : List Ee} (h : Ris l) : Onw bhU l := List.Pairwise.imp (fun {a b} h => by
  have := ordI_anti a.key b.key
  simp only [bhU, Bool.false_and, Bool.or_false, decide_eq_true_eq]; omega) h
theorem onwD {l : List Ee} (h : Ris l) : Onw bhD l.reverse := by
  unfold Onw
  rw [List.pairwise_reverse]
  exact List.Pairwise.imp (fun {a b} h => by simp only [bhD, Bool.false_and, Bool.or_false, decide_eq_true_eq]; exact h) h
section
variable {bh : List Int → List Int → Bool → Bool} (W : Way bh)
include W
theorem Way.asym {x y : List Int} (h : bh y x false = true) : bh x y false = false := by
  cases h2 : bh x y false with
  | false => rfl
  | true => have := W.trans h h2; rw [W.irr] at this; cases this
omit W in
theorem find_min {l : List Ee} (h : Onw bh l) {P : Ee → Bool} {m : Ee} (hf : l.find? P = some m) : ∀ x ∈ l, P x = true → x = m ∨ bh x.key m.key false = true := by
  induction l with
  | nil => simp at hf
  | cons y t ih =>
    obtain ⟨h1, h2⟩ := List.pairwise_cons.1 h
    intro x hx hp
    by_cases hy : P y = true
    · rw [List.find?_cons_of_pos hy] at hf
      cases hf
      rcases List.mem_cons.1 hx with rfl | hx
      · exact .inl rfl
      · exact .inr (h1 x hx)
    · rw [List.find?_cons_of_neg hy] at hf
      rcases List.mem_cons.1 hx with rfl | hx
      · exact absurd hp hy
      · exact ih h2 hf x hx hp
theorem find_is {l : List Ee} (h : Onw bh l) {P : Ee → Bool} {m : Ee} (hm : m ∈ l) (hp : P m = true) (hmin : ∀ x ∈ l, P x = true → x = m ∨ bh x.key m.key false = true) : l.find? P = some m := by
  cases hf : l.find? P with
  | none =>
    rw [List.find?_eq_none] at hf
    exact absurd hp (hf m hm)
  | some y =>
    have hy := List.mem_of_find?_eq_some hf
    have hyp : P y = true := by have := List.find?_some hf; simpa using this
    rcases hmin y hy hyp with rfl | h1
    · rfl
    · rcases find_min h hf m hm hp with rfl | h2
      · rfl
      · rw [W.asym h1] at h2; cases h2
omit W in
theorem scan_some {last : Option (List Int)} {l : List Ee} (h : Onw bh l) {e : Ee} (hs : scan bh last l = some e) : e ∈ l ∧ e.del = false ∧ past bh last e.key = false ∧ ∀ a ∈ l, a.del = true ∨ a = e ∨ bh a.key e.key false = true := by
  induction l with
  | nil => simp [scan] at hs
  | cons y t ih =>
    obtain ⟨h1, h2⟩ := List.pairwise_cons.1 h
    unfold scan at hs
    split at hs
    · cases hs
    · rename_i hp
      split at hs
      · rename_i hd
        obtain ⟨a1, a2, a3, a4⟩ := ih h2 hs
        refine ⟨List.mem_cons_of_mem _ a1, a2, a3, fun a ha => ?_⟩
        rcases List.mem_cons.1 ha with rfl | ha
        · exact .inl hd
        · exact a4 a ha
      · rename_i hd
        cases hs
        refine ⟨List.mem_cons_self, by simpa using hd, by simpa using hp, fun a ha => ?_⟩
        rcases List.mem_cons.1 ha with rfl | ha
        · exact .inr (.inl rfl)
        · exact .inr (.inr (h1 a ha))
theorem scan_none {last : Option (List Int)} {l : List Ee} (h : Onw bh l) (hs : scan bh last l = none) : ∀ a ∈ l, a.del = true ∨ past bh last a.key = true := by
  induction l with
  | nil => simp
  | cons y t ih =>
    obtain ⟨h1, h2⟩ := List.pairwise_cons.1 h
    intro a ha
    unfold scan at hs
    split at hs
    · rename_i hp
      rcases List.mem_cons.1 ha with rfl | ha
      · exact .inr hp
      · right
        unfold past at hp ⊢
        cases last with
        | none => cases hp
        | some l => exact W.trans (h1 a ha) hp
    · split at hs
      · rename_i hd
        rcases List.mem_cons.1 ha with rfl | ha
        · exact .inl hd
        · exact ih h2 hs a ha
      · cases hs
omit W in
theorem find_congr {l : List Ee} {P Q : Ee → Bool} (h : ∀ x ∈ l, P x = Q x) : l.find? P = l.find? Q := by
  induction l with
  | nil => rfl
  | cons y t ih =>
    have h1 := h y List.mem_cons_self
    have h2 := ih fun x hx => h x (List.mem_cons_of_mem _ hx)
    rw [List.find?_cons, List.find?_cons, h1, h2]
/-- what is seen first, of lists on their way. -/
def firstG (bh : List Int → List Int → Bool → Bool) (A B : List Ee) : Nat → List Int → Bool → Option Ee × Nat × Nat
  | 0, _, _ => (none, 6, 0)
  | k + 1, frm, inn => match scan bh ((B.find? (fun e => bh e.key frm inn)).map Ee.key) (A.filter (fun e => bh e.key frm inn)) with
    | some e => (some e, 0, k)
    | none => match B.find? (fun e => bh e.key frm inn) with
      | none => (none, 0, k)
      | some p => if (lk A p.key).isSome then firstG bh A B k p.key false else (some p, 0, k)
theorem firstG_ans {A B M : List Ee} (hA : Onw bh A) (hB : Onw bh B) (hM : Onw bh M) (mem : ∀ x, x ∈ M ↔ (x ∈ A ∧ x.del = false) ∨ (x ∈ B ∧ ∀ a ∈ A, a.key ≠ x.key)) :
    ∀ (k : Nat) (frm : List Int) (inn : Bool), (firstG bh A B k frm inn).2.1 = 0 → (firstG bh A B k frm inn).1 = M.find? (fun e => bh e.key frm inn)
  | 0, frm, inn, h => by simp [firstG] at h
  | k + 1, frm, inn, h => by
    have hA' : Onw bh (A.filter (fun e => bh e.key frm inn)) := List.Pairwise.filter _ hA
    unfold firstG at h ⊢
    cases hs : scan bh ((B.find? (fun e => bh e.key frm inn)).map Ee.key) (A.filter (fun e => bh e.key frm inn)) with
    | some e =>
      simp only []
      obtain ⟨e1, e2, e3, e4⟩ := scan_some hA' hs
      obtain ⟨e5, e6⟩ := List.mem_filter.1 e1
      refine (find_is W hM ((mem e).2 (.inl ⟨e5, e2⟩)) e6 fun x hx hpx => ?_).symm
      rcases (mem x).1 hx with ⟨hx1, hx2⟩ | ⟨hx1, hx2⟩
      · rcases e4 x (List.mem_filter.2 ⟨hx1, hpx⟩) with h | h | h
        · rw [hx2] at h; cases h
        · exact .inl h
        · exact .inr h
      · cases hf : B.find? (fun e => bh e.key frm inn) with
        | none =>
          rw [List.find?_eq_none] at hf
          exact absurd hpx (hf x hx1)
        | some p =>
          rw [hf] at e3
          have e3' : bh e.key p.key false = false := e3
          right
          rcases find_min hB hf x hx1 hpx with rfl | h1
          · cases hep : bh x.key e.key false with
            | true => rfl
            | false => exact absurd (W.tot e3' hep) (hx2 e e5)
          · cases hep : bh p.key e.key false with
            | true => exact W.trans h1 hep
            | false =>
              have := W.tot e3' hep
              rw [this]; exact h1
    | none =>
      rw [hs] at h
      simp only [] at h ⊢
      have hn := scan_none W hA' hs
      cases hf : B.find? (fun e => bh e.key frm inn) with
      | none =>
        simp only []
        rw [hf] at hn
        symm
        rw [List.find?_eq_none] at hf ⊢
        intro x hx hpx
        rcases (mem x).1 hx with ⟨hx1, hx2⟩ | ⟨hx1, hx2⟩
        · rcases hn x (List.mem_filter.2 ⟨hx1, hpx⟩) with h | h
          · rw [hx2] at h; cases h
          · cases h
        · exact hf x hx1 hpx
      | some p =>
        rw [hf] at h hn
        simp only [] at h ⊢
        have hp := List.mem_of_find?_eq_some hf
        have hpp : bh p.key frm inn = true := by have := List.find?_some hf; simpa using this
        have hlkA : (lk A p.key).isSome = true ↔ ∃ a ∈ A, a.key = p.key := by
          unfold lk
          rw [List.find?_isSome]
          simp
        have hA2 : ∀ x ∈ M, bh x.key frm inn = true → x = p ∨ bh x.key p.key false = true := fun x hx hpx => by
          rcases (mem x).1 hx with ⟨hx1, hx2⟩ | ⟨hx1, hx2⟩
          · rcases hn x (List.mem_filter.2 ⟨hx1, hpx⟩) with h | h
            · rw [hx2] at h; cases h
            · exact .inr h
          · exact find_min hB hf x hx1 hpx
        by_cases hl : (lk A p.key).isSome = true
        · rw [if_pos hl] at h ⊢
          rw [firstG_ans hA hB hM mem k p.key false h]
          refine find_congr fun x hx => ?_
          cases hq : bh x.key frm inn with
          | true =>
            rcases hA2 x hx hq with rfl | h1
            · exfalso
              obtain ⟨a, ha, hak⟩ := hlkA.1 hl
              rcases (mem x).1 hx with ⟨hx1, hx2⟩ | ⟨hx1, hx2⟩
              · rcases hn x (List.mem_filter.2 ⟨hx1, hq⟩) with h | h
                · rw [hx2] at h; cases h
                · have h' : bh x.key x.key false = true := h
                  rw [W.irr] at h'; cases h'
              · exact hx2 a ha hak
            · exact h1
          | false =>
            cases hq2 : bh x.key p.key false with
            | false => rfl
            | true => have := W.trans hq2 hpp; rw [hq] at this; cases this
        · rw [if_neg hl]
          simp only []
          exact (find_is W hM ((mem p).2 (.inr ⟨hp, fun a ha hak => hl (hlkA.2 ⟨a, ha, hak⟩)⟩)) hpp hA2).symm
/-- with more questions than pairs behind the place no error is met. -/
theorem firstG_ok {A B : List Ee} : ∀ (k : Nat) (frm : List Int) (inn : Bool), (B.filter (fun e => bh e.key frm inn)).length < k → (firstG bh A B k frm inn).2.1 = 0
  | 0, frm, inn, h => by omega
  | k + 1, frm, inn, h => by
    unfold firstG
    cases hs : scan bh ((B.find? (fun e => bh e.key frm inn)).map Ee.key) (A.filter (fun e => bh e.key frm inn)) with
    | some e => rfl
    | none =>
      simp only []
      cases hf : B.find? (fun e => bh e.key frm inn) with
      | none => rfl
      | some p =>
        simp only []
        by_cases hl : (lk A p.key).isSome = true
        · rw [if_pos hl]
          have hpp : bh p.key frm inn = true := by have := List.find?_some hf; simpa using this
          have := filter_lt (fun e : Ee => bh e.key p.key false) (fun e => bh e.key frm inn) (fun x hx => W.trans hx hpp) B p (List.mem_of_find?_eq_some hf) (W.irr p.key) hpp
          exact firstG_ok k p.key false (by omega)
        · rw [if_neg hl]
/-- the next one behind one of a list. -/
theorem find_next {l : List Ee} (h : Onw bh l) {i : Nat} {e : Ee} (he : l[i]? = some e) : l.find? (fun x => bh x.key e.key false) = l[i + 1]? := by
  induction l generalizing i with
  | nil => simp at he
  | cons y t ih =>
    obtain ⟨h1, h2⟩ := List.pairwise_cons.1 h
    cases i with
    | zero =>
      simp at he
      subst he
      rw [List.find?_cons_of_neg (by rw [W.irr]; simp)]
      cases t with
      | nil => rfl
      | cons z t => rw [List.find?_cons_of_pos (p := fun x : Ee => bh x.key y.key false) (h1 z List.mem_cons_self)]; rfl
    | succ i =>
      have he' : t[i]? = some e := by simpa using he
      rw [List.find?_cons_of_neg (by rw [W.asym (h1 e (List.mem_of_getElem? he'))]; simp)]
      rw [ih h2 he']
      simp
end
theorem firstU_G (es us : List Ee) : ∀ (k : Nat) (frm : List Int) (inn : Bool), firstU es us k frm inn = firstG bhU es us k frm inn
  | 0, frm, inn => rfl
  | k + 1, frm, inn => by
    unfold firstU firstG putU nxU
    cases scan bhU ((us.find? (fun e => bhU e.key frm inn)).map Ee.key) (es.filter (fun e => bhU e.key frm inn)) with
    | some e => rfl
    | none =>
      simp only []
      cases us.find? (fun e => bhU e.key frm inn) with
      | none => rfl
      | some p =>
        simp only []
        rw [firstU_G es us k p.key false]
theorem firstD_G (es us : List Ee) : ∀ (k : Nat) (frm : List Int) (inn : Bool), firstD es us k frm inn = firstG bhD es.reverse us.reverse k frm inn
  | 0, frm, inn => rfl
  | k + 1, frm, inn => by
    unfold firstD firstG putD nxD
    rw [List.filter_reverse]
    cases scan bhD ((us.reverse.find? (fun e => bhD e.key frm inn)).map Ee.key) (es.filter (fun e => bhD e.key frm inn)).reverse with
    | some e => rfl
    | none =>
      simp only []
      cases us.reverse.find? (fun e => bhD e.key frm inn) with
      | none => rfl
      | some p =>
        simp only []
        have hlk : (lk es.reverse p.key).isSome = (lk es p.key).isSome := by
          unfold lk
          rw [Bool.eq_iff_iff, List.find?_isSome, List.find?_isSome]
          simp
        rw [hlk, firstD_G es us k p.key false]
theorem seenU_is {es us : List Ee} (he : Ris es) (hu : Ris us) {k : Nat} (hk : us.length < k) (frm : List Int) (inn : Bool) : (firstU es us k frm inn).1 = nxU (mg es us) frm inn ∧ (firstU es us k frm inn).2.1 = 0 := by
  rw [firstU_G]
  have h0 : (firstG bhU es us k frm inn).2.1 = 0 := firstG_ok wayU k frm inn (Nat.lt_of_le_of_lt (List.length_filter_le _ _) hk)
  exact ⟨firstG_ans wayU (onwU he) (onwU hu) (onwU (mg_ris he hu)) (mg_mem he hu) k frm inn h0, h0⟩
theorem seenD_is {es us : List Ee} (he : Ris es) (hu : Ris us) {k : Nat} (hk : us.length < k) (frm : List Int) (inn : Bool) : (firstD es us k frm inn).1 = nxD (mg es us) frm inn ∧ (firstD es us k frm inn).2.1 = 0 := by
  rw [firstD_G]
  have h0 : (firstG bhD es.reverse us.reverse k frm inn).2.1 = 0 := firstG_ok wayD k frm inn (Nat.lt_of_le_of_lt (List.length_filter_le _ _) (by rw [List.length_reverse]; exact hk))
  refine ⟨firstG_ans wayD (onwD he) (onwD hu) (onwD (mg_ris he hu)) (fun x => ?_) k frm inn h0, h0⟩
  rw [List.mem_reverse, mg_mem he hu]
  simp
/-- from the beginning, and on from one. -/
theorem nxU_start (l : List Ee) : nxU l [] true = l[0]? := by
  cases l with
  | nil => rfl
  | cons y t => simp [nxU, bhU]
theorem nxU_next {l : List Ee} (h : Ris l) {i : Nat} {e : Ee} (he : l[i]? = some e) : nxU l e.key false = l[i + 1]? := find_next wayU (onwU h) he
theorem nxD_start (l : List Ee) : nxD l [] true = l.reverse[0]? := by
  unfold nxD
  cases l.reverse with
  | nil => rfl
  | cons y t => simp [bhD]
theorem nxD_next {l : List Ee} (h : Ris l) {i : Nat} {e : Ee} (he : l.reverse[i]? = some e) : nxD l e.key false = l.reverse[i + 1]? := find_next wayD (onwD h) he
/-- a list that rises is what its Puts make. -/
theorem put_end {es : List Ee} {e : Ee} (h : ∀ x ∈ es, ordI x.key e.key < 0) : put es e = es ++ [e] := by
  induction es with
  | nil => rfl
  | cons y t ih =>
    unfold put
    rw [if_pos (h y List.mem_cons_self), ih fun x hx => h x (List.mem_cons_of_mem _ hx)]
    rfl
theorem fold_put {es : List Ee} (h : Ris es) : es.foldl put [] = es := by
  have gen : ∀ (l acc : List Ee), Ris (acc ++ l) → l.foldl put acc = acc ++ l := by
    intro l
    induction l with
    | nil => intro acc _; simp
    | cons x t ih =>
      intro acc hr
      have hx : ∀ y ∈ acc, ordI y.key x.key < 0 := fun y hy => (List.pairwise_append.1 hr).2.2 y hy x List.mem_cons_self
      rw [List.foldl_cons, put_end hx, ih (acc ++ [x]) (by rw [List.append_assoc]; exact hr), List.append_assoc]
      rfl
  simpa using gen es [] h
end Go.Proofs.Ytfcebpenjdhgbaa
