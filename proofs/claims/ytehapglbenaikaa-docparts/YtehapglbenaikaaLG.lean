/- The reader of documents: the state behind each kind of value. -/
import Derived.Test.YtehapglbenaikaaLF
namespace Go.Proofs.Ytehapglbenaikaa
open Go.RowKit
set_option linter.unusedVariables false

/-- a tag has been read, at j, behind the name y. -/
structure Tg (rb n₁ q p : Nat) (a : Option Addr) (bs : List Int) (pt : Nat) (W0 : World) (s : Sl) (st : List Sl) (sa : Option Addr) (N i : Nat) (y : List Int) (j : Nat) : Prop where
  wand : Wand n₁ (Prv rb q p a sa) W0 (s :: st) (pt, 0) (bs.take i)
  gh : Gh bs (s :: st) i N
  nx : nx bs s i 0 = (y, j, 0)
  ij : i ≤ j
  jl : j < bs.length
  dr : bs.drop i = nenc s (bk y) ++ ((tagAt bs j 0 : Int) :: bs.drop (j + 1))
  ny : (bk y).size ≤ bs.length
  few : bs.length ≤ 8192
  byts : Byts bs
def leafT (k : Int) (bo : Bool) (n : Int) (t : ByteArray) : T := .mk k bo n t none 0 [] none 0 .nil none 0 .nil
theorem leafT_mem (k : Int) (bo : Bool) (n : Int) (t : ByteArray) (N : Nat) (W : World) : (leafT k bo n t).Mem N W :=
  ⟨.inl rfl, fun c hc => by simp at hc, fun _ => ⟨rfl, rfl⟩, by simp, trivial, fun _ => ⟨rfl, rfl⟩, by simp [TL.list], trivial, fun _ => ⟨rfl, rfl⟩, by simp [FL.list]⟩
section
variable {rb n₁ : Nat} {w0 : World} {q p : Nat} {a : Option Addr} {bs : List Int} {W0 W : World} {s : Sl} {st : List Sl} {sa : Option Addr} {sc N i i' e' : Nat} {pt : Nat} {y : List Int} {j : Nat}
theorem mode_leaf (h : Tg rb n₁ q p a bs pt W0 s st sa N i y j) (hm : Md rb n₁ w0 q p a bs W0 s st sa sc N (bk y) W i' 0) (v1 : T) (hat : At W s.2 v1) (hok : v1.Ok)
    (hM : ∀ W' : World, W.heap.size ≤ W'.heap.size → Agr n₁ (Prv rb q p a sa) (fun k j => ∃ t ∈ st, SC t k j) W W' → v1.Mem W'.heap.size W') (E : List Int) (hE : v1.denc = (tagAt bs j 0 : Int) :: E) (hd : bs.drop (j + 1) = E ++ bs.drop i') (hi' : i' ≤ bs.length)
    (hgh : ∀ (v : T) (r : List Int), v.Wd → v.tag = (tagAt bs j 0 : Int) → bs.drop (j + 1) = v.body ++ r → bs.drop i' = r) : Mode rb n₁ q p a bs pt W st sa N i' 0 := by
  refine .inl ⟨rfl, leaf_end hm h.wand v1 hat hok (by have := h.ny; have := h.few; omega) hM (by have := h.ij; have := h.jl; omega) hi' ?_, ?_⟩
  · rw [h.dr, senc_is, hE, hd]; simp
  · have := gh_step (new := []) (N' := N) (i' := i') h.gh h.byts (by have := h.ij; have := h.jl; omega) h.nx h.jl (fun v r h1 h2 h3 h4 => ⟨[], rfl, by simp, by simpa [renc] using hgh v r h1 h2 h3, by simp [more]⟩)
    simpa using this
theorem mode_bad (h : Tg rb n₁ q p a bs pt W0 s st sa N i y j) (he : e' ≠ 0) (hgh : ∀ (v : T) (r : List Int), v.Wd → v.tag = (tagAt bs j 0 : Int) → bs.drop (j + 1) = v.body ++ r → N + (v.sz - 1) ≤ 512 → False) {sa' : Option Addr} {N' i' : Nat} {st' : List Sl} : Mode rb n₁ q p a bs pt W st' sa' N' i' e' :=
  .inr ⟨he, gh_no h.gh h.byts (by have := h.ij; have := h.jl; omega) h.nx h.jl hgh⟩
theorem mode_null (h : Tg rb n₁ q p a bs pt W0 s st sa N i y j) (ht : tagAt bs j 0 = 1) (hm : Md rb n₁ w0 q p a bs W0 s st sa sc N (bk y) W (j + 1) 0) (hat : At W s.2 (leafT 1 false 0 ⟨#[]⟩)) : Mode rb n₁ q p a bs pt W st sa N (j + 1) 0 := by
  refine mode_leaf h hm _ hat ⟨⟨by omega, by omega, by decide, by decide, trivial, trivial⟩, ⟨by simp [TL.list, FL.list], trivial, trivial⟩⟩ (fun W' _ _ => leafT_mem _ _ _ _ _ _) [] (by rw [ht]; simp [leafT, T.denc]) rfl (by have := h.jl; omega) (fun v r h1 h2 h3 => ?_)
  rw [h3, body_none v h1 (by rw [h2, ht]; simp)]; rfl
theorem mode_bool (h : Tg rb n₁ q p a bs pt W0 s st sa N i y j) (b : Bool) (ht : tagAt bs j 0 = if b then 3 else 2) (hm : Md rb n₁ w0 q p a bs W0 s st sa sc N (bk y) W (j + 1) 0) (hat : At W s.2 (leafT 2 b 0 ⟨#[]⟩)) : Mode rb n₁ q p a bs pt W st sa N (j + 1) 0 := by
  refine mode_leaf h hm _ hat ⟨⟨by omega, by omega, by decide, by decide, trivial, trivial⟩, ⟨by simp [TL.list, FL.list], trivial, trivial⟩⟩ (fun W' _ _ => leafT_mem _ _ _ _ _ _) [] (by rw [ht]; cases b <;> simp [leafT, T.denc]) rfl (by have := h.jl; omega) (fun v r h1 h2 h3 => ?_)
  rw [h3, body_none v h1 (by rw [h2, ht]; cases b <;> simp)]; rfl
theorem mode_num (h : Tg rb n₁ q p a bs pt W0 s st sa N i y j) (ht : tagAt bs j 0 = 4) (hm : Md rb n₁ w0 q p a bs W0 s st sa sc N (bk y) W (tk bs (j + 1) (nm bs (j + 1) 0).2.2 (nm bs (j + 1) 0).2.1).1 (tk bs (j + 1) (nm bs (j + 1) 0).2.2 (nm bs (j + 1) 0).2.1).2.1)
    (hat : At W s.2 (leafT 3 false (zr (nm bs (j + 1) 0).1) ⟨#[]⟩)) : Mode rb n₁ q p a bs pt W st sa N (tk bs (j + 1) (nm bs (j + 1) 0).2.2 (nm bs (j + 1) 0).2.1).1 (tk bs (j + 1) (nm bs (j + 1) 0).2.2 (nm bs (j + 1) 0).2.1).2.1 := by
  have hj := h.jl
  rcases hnm : nm bs (j + 1) 0 with ⟨m, l, er⟩
  rw [hnm] at hm hat
  simp only [] at hm hat ⊢
  by_cases he : er = 0
  · subst he
    obtain ⟨f1, f2, f3, f4⟩ := nm_form bs (j + 1) h.byts (by omega) m l hnm
    rw [tk_ok bs (j + 1) l f2] at hm ⊢
    simp only [] at hm ⊢
    have hlt : m < 18446744073709551616 := by have := nm_lt bs (j + 1) 0 h.byts; rw [hnm] at this; exact this
    refine mode_leaf h hm _ hat ⟨⟨by omega, zr_range m hlt, by decide, by decide, trivial, trivial⟩, ⟨by simp [TL.list, FL.list], trivial, trivial⟩⟩ (fun W' _ _ => leafT_mem _ _ _ _ _ _) (vb m) (by rw [ht]; simp [leafT, T.denc, zz_zr]) f1 f2 (fun v r h1 h2 h3 => ?_)
    obtain ⟨m', hm', hb'⟩ := body_num v h1 (by rw [h2, ht]; rfl)
    rw [hb', f1] at h3
    exact (vb_cancel m m' _ _ hlt hm' h3).2
  · rw [tk_err bs (j + 1) er _ he]
    refine mode_bad h he (fun v r h1 h2 h3 _ => ?_)
    obtain ⟨m', hm', hb'⟩ := body_num v h1 (by rw [h2, ht]; rfl)
    rw [hb'] at h3
    have := nm_back bs (j + 1) m' r hm' h3
    rw [hnm] at this
    simp only [Prod.mk.injEq] at this
    exact he this.2.2
theorem rt_read (h : Tg rb n₁ q p a bs pt W0 s st sa N i y j) (ht : tagAt bs j 0 = 5 ∨ tagAt bs j 0 = 6) {z : List Int} (hz : rt bs (j + 1) 0 = (z, i', e')) : (e' = 0 → bs.drop (j + 1) = vb z.length ++ (z ++ bs.drop i') ∧ i' ≤ bs.length ∧ Byts z ∧ z.length ≤ 8192 ∧ (∀ (v : T) (r : List Int), v.Wd → v.tag = (tagAt bs j 0 : Int) → bs.drop (j + 1) = v.body ++ r → bs.drop i' = r)) ∧ (e' ≠ 0 → ∀ (v : T) (r : List Int), v.Wd → v.tag = (tagAt bs j 0 : Int) → bs.drop (j + 1) = v.body ++ r → N + (v.sz - 1) ≤ 512 → False) := by
  have hj := h.jl
  have hfew := h.few
  refine ⟨fun he => ?_, fun he v r h1 h2 h3 _ => ?_⟩
  · subst he
    obtain ⟨f1, f2, f3, f4⟩ := rt_form bs (j + 1) h.byts (by omega) z i' hz
    have hl := congrArg List.length f1
    simp only [List.length_drop, List.length_append] at hl
    refine ⟨f1, f3, f4, by omega, fun v r h1 h2 h3 => ?_⟩
    obtain ⟨z', g1, g2⟩ := body_text v h1 (by rw [h2]; omega)
    rw [g2, List.append_assoc, f1] at h3
    obtain ⟨k1, k2⟩ := vb_cancel _ _ _ _ (by omega) g1 h3
    exact (List.append_inj k2 k1).2
  · obtain ⟨z', g1, g2⟩ := body_text v h1 (by rw [h2]; omega)
    rw [g2, List.append_assoc] at h3
    have := rt_back bs (j + 1) z' r (by omega) g1 h3
    rw [hz] at this
    simp only [Prod.mk.injEq] at this
    exact he this.2.2
theorem mode_text (h : Tg rb n₁ q p a bs pt W0 s st sa N i y j) (ht : tagAt bs j 0 = 5) {z : List Int} (hz : rt bs (j + 1) 0 = (z, i', e')) (hm : Md rb n₁ w0 q p a bs W0 s st sa sc N (bk y) W i' e') (hat : At W s.2 (leafT 4 false 0 (bk z))) : Mode rb n₁ q p a bs pt W st sa N i' e' := by
  obtain ⟨r1, r2⟩ := rt_read h (.inl ht) hz
  by_cases he : e' = 0
  · subst he
    obtain ⟨f1, f2, f3, f4, f5⟩ := r1 rfl
    refine mode_leaf h hm _ hat ⟨⟨by omega, by omega, by rw [bk_size]; omega, by simp, trivial, trivial⟩, ⟨by simp [TL.list, FL.list], trivial, trivial⟩⟩ (fun W' _ _ => leafT_mem _ _ _ _ _ _) (vb z.length ++ z) (by rw [ht]; simp [leafT, T.denc, bk_size, sb_bk z f3]) (by rw [List.append_assoc]; exact f1) f2 f5
  · exact mode_bad h he (r2 he)
theorem mode_bytes (h : Tg rb n₁ q p a bs pt W0 s st sa N i y j) (ht : tagAt bs j 0 = 6) {z : List Int} (hz : rt bs (j + 1) 0 = (z, i', e')) (hm : Md rb n₁ w0 q p a bs W0 s st sa sc N (bk y) W i' e') (ya : Option Addr) (yc : Nat) (hat : At W s.2 (.mk 5 false 0 ⟨#[]⟩ ya yc z none 0 .nil none 0 .nil))
    (hya : (ya = none ∧ yc = 0 ∧ z = []) ∨ ∃ g, ya = some ⟨g, 0, none⟩ ∧ W0.heap.size ≤ g ∧ g < W.heap.size ∧ ¬ Prv rb q p a sa g ∧ ∀ k, k < z.length → W.cell? ⟨g, k, none⟩ = some (.int .u8 (z.getD k 0))) : Mode rb n₁ q p a bs pt W st sa N i' e' := by
  obtain ⟨r1, r2⟩ := rt_read h (.inr ht) hz
  by_cases he : e' = 0
  · subst he
    obtain ⟨f1, f2, f3, f4, f5⟩ := r1 rfl
    refine mode_leaf h hm _ hat ⟨⟨by omega, by omega, by decide, by omega, trivial, trivial⟩, ⟨by simp [TL.list, FL.list], trivial, trivial⟩⟩ (fun W' hs ha => ?_) (vb z.length ++ z) (by rw [ht]; simp [T.denc]) (by rw [List.append_assoc]; exact f1) f2 f5
    refine ⟨?_, f3, ?_, by omega, trivial, fun _ => ⟨rfl, rfl⟩, by simp [TL.list], trivial, fun _ => ⟨rfl, rfl⟩, by simp [FL.list]⟩
    · rcases hya with ⟨_, _, h0⟩ | ⟨g, rfl, g1, g2, g3, g4⟩
      · exact .inl h0
      · refine .inr ⟨g, 0, rfl, by omega, fun k hk => ?_⟩
        rw [Nat.zero_add]
        refine ((ha g k (by have hn := hm.rng _ _ (SC.val s 0 (by omega)); omega) g2 g3).1 ?_).trans (g4 k hk)
        · rintro ⟨t, ht', hsc⟩
          have := hm.low t ht' _ _ hsc
          omega
    · intro hn
      rcases hya with ⟨_, h1, h0⟩ | ⟨g, rfl, _⟩
      · exact ⟨h0, h1⟩
      · cases hn
  · exact mode_bad h he (r2 he)
end
def TL.ofL : List T → TL
  | [] => .nil
  | v :: r => .cons v (TL.ofL r)
def FL.ofL : List (ByteArray × T) → FL
  | [] => .nil
  | x :: r => .cons x.1 x.2 (FL.ofL r)
theorem TL.ofL_list : ∀ l : List T, (TL.ofL l).list = l
  | [] => rfl
  | v :: r => by simp only [TL.ofL, TL.list, TL.ofL_list r]
theorem FL.ofL_list : ∀ l : List (ByteArray × T), (FL.ofL l).list = l
  | [] => rfl
  | x :: r => by simp only [FL.ofL, FL.list, FL.ofL_list r]
theorem TL.ofL_mem {N : Nat} {W : World} {B : Nat} (hB : B < N) : ∀ (l : List T) (k : Nat), (∀ (j : Nat) v, l[j]? = some v → At W (B, (k + j) * 7) v ∧ v.Mem N W) → (TL.ofL l).Mem N W (some ⟨B, 0, none⟩) k
  | [], k, _ => trivial
  | v :: r, k, h => by
    obtain ⟨h1, h2⟩ := h 0 v rfl
    refine ⟨⟨B, 0, rfl, hB, fun j u hu => ?_⟩, h2, TL.ofL_mem hB r (k + 1) (fun j v hv => ?_)⟩
    · have := h1 j u hu
      simpa using this
    · have := h (j + 1) v (by simpa using hv)
      rwa [show k + (j + 1) = k + 1 + j by omega] at this
theorem FL.ofL_mem {N : Nat} {W : World} {B : Nat} (hB : B < N) : ∀ (l : List (ByteArray × T)) (k : Nat), (∀ (j : Nat) x, l[j]? = some x → W.cell? ⟨B, (k + j) * 8, none⟩ = some (.string x.1) ∧ At W (B, (k + j) * 8 + 1) x.2 ∧ x.2.Mem N W) → (FL.ofL l).Mem N W (some ⟨B, 0, none⟩) k
  | [], k, _ => trivial
  | x :: r, k, h => by
    obtain ⟨h0, h1, h2⟩ := h 0 x rfl
    refine ⟨⟨B, 0, rfl, hB, by simpa using h0, fun j u hu => ?_⟩, h2, FL.ofL_mem hB r (k + 1) (fun j v hv => ?_)⟩
    · have := h1 j u hu
      simpa using this
    · have := h (j + 1) v (by simpa using hv)
      rwa [show k + (j + 1) = k + 1 + j by omega] at this
theorem TL.ofL_ok (l : List T) (h : ∀ v ∈ l, v.Ok) : (TL.ofL l).Wd ∧ (TL.ofL l).cl :=
  ⟨TL.wd_of _ (by rw [TL.ofL_list]; exact fun c hc => (h c hc).1), TL.cl_of _ (by rw [TL.ofL_list]; exact fun c hc => (h c hc).2)⟩
theorem FL.ofL_ok (l : List (ByteArray × T)) (h : ∀ x ∈ l, x.1.size ≤ 10000000 ∧ x.2.Ok) : (FL.ofL l).Wd ∧ (FL.ofL l).cl :=
  ⟨FL.wd_of _ (by rw [FL.ofL_list]; exact fun c hc => ⟨(h c hc).1, (h c hc).2.1⟩), FL.cl_of _ (by rw [FL.ofL_list]; exact fun c hc => (h c hc).2.2)⟩
theorem newL_at (B n j : Nat) (h : j < n) : (newL B n)[j]? = some (none, (B, j * 7)) := by simp [newL, h]
theorem newF_at (B n j : Nat) (h : j < n) : (newF B n)[j]? = some (some (B, j * 8), (B, j * 8 + 1)) := by simp [newF, h]
theorem renc_newL (B : Nat) (xs : List (ByteArray × T)) : renc (newL B xs.length) xs = (xs.map (·.2)).flatMap T.denc := by
  have key : ∀ (xs : List (ByteArray × T)) (g : Nat → Nat × Nat) (k : Nat), renc ((List.range' k xs.length).map fun j => ((none : Option (Nat × Nat)), g j)) xs = (xs.map (·.2)).flatMap T.denc := by
    intro xs
    induction xs with
    | nil => intro g k; rfl
    | cons v r ih =>
      intro g k
      simp only [List.length_cons, List.range'_succ, List.map_cons, renc, List.flatMap_cons, senc]
      rw [ih g (k + 1)]
      simp
  have := key xs (fun j => (B, j * 7)) 0
  rwa [← List.range_eq_range'] at this
theorem renc_newF (B : Nat) (xs : List (ByteArray × T)) : renc (newF B xs.length) xs = xs.flatMap fden := by
  have := renc_doc xs (fun j => (B, j * 8 + 1)) (fun j => (B, j * 8)) 0
  rwa [← List.range_eq_range'] at this
section
variable {rb n₁ : Nat} {w0 : World} {q p : Nat} {a : Option Addr} {bs : List Int} {W0 W : World} {s : Sl} {st : List Sl} {sa sa' : Option Addr} {sc sc' N N' i i' : Nat} {pt : Nat} {y : List Int} {j : Nat}
/-- what s waits for does not turn any more. -/
theorem keep_s (hrng : ∀ k j, SC s k j → n₁ ≤ k ∧ k < W0.heap.size ∧ ¬ Prv rb q p a sa k) (hap : ∀ t ∈ st, ∀ k j, SC s k j → ¬ SC t k j) (hP : ∀ k, k < W0.heap.size → Prv rb q p a sa' k → Prv rb q p a sa k) (hsz : W0.heap.size ≤ W.heap.size) {new : List Sl} (hnew : ∀ x ∈ new, ∀ k i, SC x k i → W0.heap.size ≤ k)
    {W' : World} (ha : Agr n₁ (Prv rb q p a sa') (fun k i => ∃ x ∈ new ++ st, SC x k i) W W') : ∀ k j, SC s k j → W'.cell? ⟨k, j, none⟩ = W.cell? ⟨k, j, none⟩ := by
  intro k j hk
  obtain ⟨h1, h2, h3⟩ := hrng k j hk
  refine (ha k j h1 (by omega) (fun h => h3 (hP k h2 h))).1 ?_
  rintro ⟨x, hx, hsc⟩
  rcases List.mem_append.1 hx with hx | hx
  · have := hnew x hx k j hsc; omega
  · exact hap x hx k j hk hsc
theorem mode_list (h : Tg rb n₁ q p a bs pt W0 s st sa N i y j) (ht : tagAt bs j 0 = 7) (hrng : ∀ k j, SC s k j → n₁ ≤ k ∧ k < W0.heap.size ∧ ¬ Prv rb q p a sa k) (hap : ∀ t ∈ st, ∀ k j, SC s k j → ¬ SC t k j)
    (hP : ∀ k, k < W0.heap.size → Prv rb q p a sa' k → Prv rb q p a sa k) (hsz : W0.heap.size ≤ W.heap.size) (hag : Agr n₁ (Prv rb q p a sa) (SC s) W0 W) (hname : ∀ z, s.1 = some z → W.cell? (ad z) = some (.string (bk y)))
    (m l er B : Nat) (hnm : nm bs (j + 1) 0 = (m, l, er)) (hm : N + m ≤ 512) (hB : W0.heap.size ≤ B) (hB2 : B < W.heap.size)
    (hat : ∀ t : TL, t.list.length = m → At W s.2 (.mk 6 false 0 ⟨#[]⟩ none 0 [] (some ⟨B, 0, none⟩) m t none 0 .nil)) :
    Mode rb n₁ q p a bs pt W (newL B m ++ st) sa' (N + m) (tk bs (j + 1) er l).1 (tk bs (j + 1) er l).2.1 := by
  have hj := h.jl
  have hij := h.ij
  by_cases he : er = 0
  · subst he
    obtain ⟨f1, f2, f3, f4⟩ := nm_form bs (j + 1) h.byts (by omega) m l hnm
    rw [tk_ok bs (j + 1) l f2]
    simp only []
    have hnew : ∀ x ∈ newL B m, ∀ k i, SC x k i → W0.heap.size ≤ k := by
      intro x hx k i hk
      simp only [newL, List.mem_map] at hx
      obtain ⟨u, _, rfl⟩ := hx
      rcases hk with hk | ⟨hk, _⟩
      · simp at hk
      · simp only [] at hk; omega
    have hd : bs.drop i = (nenc s (bk y) ++ (7 :: vb m)) ++ bs.drop (j + 1 + l) := by rw [h.dr, ht, f1]; simp
    refine .inl ⟨rfl, ?_, ?_⟩
    · rw [take_split hd (by omega) f2]
      refine Wand.step h.wand hP hsz hnew hag ?_
      intro W' xs hl hs ha hF
      rw [newL_len] at hl
      have hk := keep_s hrng hap hP hsz hnew ha
      have hel : ∀ (u : Nat) x, xs[u]? = some x → Filled W' (none, (B, u * 7)) x := fun u x hx => hF u _ x (newL_at B m u (by rw [← hl]; exact (List.getElem?_eq_some_iff.1 hx).1)) hx
      have hok : ∀ v ∈ xs.map (·.2), v.Ok := by
        intro v hv
        obtain ⟨x, hx, rfl⟩ := List.mem_map.1 hv
        obtain ⟨u, hu, rfl⟩ := List.mem_iff_getElem.1 hx
        exact (hel u _ (List.getElem?_eq_getElem hu)).2.2.2.1
      have hlen : (TL.ofL (xs.map (·.2))).list.length = m := by rw [TL.ofL_list, List.length_map]; exact hl
      refine ⟨(bk y, .mk 6 false 0 ⟨#[]⟩ none 0 [] (some ⟨B, 0, none⟩) m (TL.ofL (xs.map (·.2))) none 0 .nil), ⟨fun z hz => (hk _ _ (.inl hz)).trans (hname z hz), (hat _ hlen).on (fun u hu => hk _ _ (SC.val s u hu)), ?_, ?_, by have := h.ny; have := h.few; simp only []; omega⟩, ?_⟩
      · refine ⟨.inl rfl, fun c hc => by simp at hc, fun _ => ⟨rfl, rfl⟩, by simp, TL.ofL_mem (by omega) _ 0 (fun u v hv => ?_), fun hn => by simp at hn, by rw [hlen]; omega, trivial, fun _ => ⟨rfl, rfl⟩, by simp [FL.list]⟩
        rw [List.getElem?_map] at hv
        obtain ⟨x, hx, rfl⟩ := Option.map_eq_some_iff.1 hv
        obtain ⟨_, g2, g3, _⟩ := hel u x hx
        rw [Nat.zero_add]
        exact ⟨g2, g3⟩
      · exact ⟨⟨by omega, by omega, by decide, by simp, (TL.ofL_ok _ hok).1, trivial⟩, ⟨by simp [FL.list], (TL.ofL_ok _ hok).2, trivial⟩⟩
      · subst hl
        rw [renc_newL]
        simp only [senc_is, T.denc]
        simp only [TL.denc_is, TL.ofL_list]
        simp
    · refine gh_step h.gh h.byts (by omega) h.nx hj (fun v r h1 h2 h3 h4 => ?_)
      obtain ⟨t, g1, g2, g3⟩ := body_list v h1 (by rw [h2, ht]; rfl)
      rw [g3, List.append_assoc, f1] at h3
      have hlt : m < 18446744073709551616 := by omega
      have g9 := TL.len_sz t
      obtain ⟨rfl, k2⟩ := vb_cancel _ _ _ _ hlt (by omega) h3
      refine ⟨t.list.map (fun c => (⟨#[]⟩, c)), by simp [newL_len], ?_, ?_, ?_⟩
      · intro x hx
        obtain ⟨c, hc, rfl⟩ := List.mem_map.1 hx
        exact ⟨TL.Wd.at t g1 c hc, show (0 : Nat) ≤ 10000000 by omega⟩
      · rw [k2]
        have e1 := renc_newL B (t.list.map (fun c => ((⟨#[]⟩ : ByteArray), c)))
        rw [List.length_map] at e1
        rw [e1, TL.denc_is]
        simp [List.map_map, Function.comp_def]
      · have := more_list t
        omega
  · rw [tk_err bs (j + 1) er _ he]
    refine mode_bad h he (fun v r h1 h2 h3 h4 => ?_)
    obtain ⟨t, g1, g2, g3⟩ := body_list v h1 (by rw [h2, ht]; rfl)
    have g9 := TL.len_sz t
    rw [g3, List.append_assoc] at h3
    have := nm_back bs (j + 1) t.list.length _ (by omega) h3
    rw [hnm] at this
    simp only [Prod.mk.injEq] at this
    exact he this.2.2
theorem mode_doc (h : Tg rb n₁ q p a bs pt W0 s st sa N i y j) (ht : tagAt bs j 0 = 8) (hrng : ∀ k j, SC s k j → n₁ ≤ k ∧ k < W0.heap.size ∧ ¬ Prv rb q p a sa k) (hap : ∀ t ∈ st, ∀ k j, SC s k j → ¬ SC t k j)
    (hP : ∀ k, k < W0.heap.size → Prv rb q p a sa' k → Prv rb q p a sa k) (hsz : W0.heap.size ≤ W.heap.size) (hag : Agr n₁ (Prv rb q p a sa) (SC s) W0 W) (hname : ∀ z, s.1 = some z → W.cell? (ad z) = some (.string (bk y)))
    (m l er B : Nat) (hnm : nm bs (j + 1) 0 = (m, l, er)) (hm : N + m ≤ 512) (hB : W0.heap.size ≤ B) (hB2 : B < W.heap.size)
    (hat : ∀ t : FL, t.list.length = m → At W s.2 (.mk 7 false 0 ⟨#[]⟩ none 0 [] none 0 .nil (some ⟨B, 0, none⟩) m t)) :
    Mode rb n₁ q p a bs pt W (newF B m ++ st) sa' (N + m) (tk bs (j + 1) er l).1 (tk bs (j + 1) er l).2.1 := by
  have hj := h.jl
  have hij := h.ij
  by_cases he : er = 0
  · subst he
    obtain ⟨f1, f2, f3, f4⟩ := nm_form bs (j + 1) h.byts (by omega) m l hnm
    rw [tk_ok bs (j + 1) l f2]
    simp only []
    have hnew : ∀ x ∈ newF B m, ∀ k i, SC x k i → W0.heap.size ≤ k := by
      intro x hx k i hk
      simp only [newF, List.mem_map] at hx
      obtain ⟨u, _, rfl⟩ := hx
      rcases hk with hk | ⟨hk, _⟩
      · simp at hk; omega
      · simp only [] at hk; omega
    have hd : bs.drop i = (nenc s (bk y) ++ (8 :: vb m)) ++ bs.drop (j + 1 + l) := by rw [h.dr, ht, f1]; simp
    refine .inl ⟨rfl, ?_, ?_⟩
    · rw [take_split hd (by omega) f2]
      refine Wand.step h.wand hP hsz hnew hag ?_
      intro W' xs hl hs ha hF
      rw [newF_len] at hl
      have hk := keep_s hrng hap hP hsz hnew ha
      have hel : ∀ (u : Nat) x, xs[u]? = some x → Filled W' (some (B, u * 8), (B, u * 8 + 1)) x := fun u x hx => hF u _ x (newF_at B m u (by rw [← hl]; exact (List.getElem?_eq_some_iff.1 hx).1)) hx
      have hok : ∀ x ∈ xs, x.1.size ≤ 10000000 ∧ x.2.Ok := by
        intro x hx
        obtain ⟨u, hu, rfl⟩ := List.mem_iff_getElem.1 hx
        have := hel u _ (List.getElem?_eq_getElem hu)
        exact ⟨this.2.2.2.2, this.2.2.2.1⟩
      have hlen : (FL.ofL xs).list.length = m := by rw [FL.ofL_list]; exact hl
      refine ⟨(bk y, .mk 7 false 0 ⟨#[]⟩ none 0 [] none 0 .nil (some ⟨B, 0, none⟩) m (FL.ofL xs)), ⟨fun z hz => (hk _ _ (.inl hz)).trans (hname z hz), (hat _ hlen).on (fun u hu => hk _ _ (SC.val s u hu)), ?_, ?_, by have := h.ny; have := h.few; simp only []; omega⟩, ?_⟩
      · refine ⟨.inl rfl, fun c hc => by simp at hc, fun _ => ⟨rfl, rfl⟩, by simp, trivial, fun _ => ⟨rfl, rfl⟩, by simp [TL.list], FL.ofL_mem (by omega) _ 0 (fun u x hx => ?_), fun hn => by simp at hn, by rw [hlen]; omega⟩
        obtain ⟨g1, g2, g3, _⟩ := hel u x hx
        rw [Nat.zero_add]
        exact ⟨g1 _ rfl, g2, g3⟩
      · exact ⟨⟨by omega, by omega, by decide, by simp, trivial, (FL.ofL_ok _ hok).1⟩, ⟨by simp [TL.list], trivial, (FL.ofL_ok _ hok).2⟩⟩
      · subst hl
        rw [renc_newF]
        simp only [senc_is, T.denc]
        simp only [FL.denc_is, FL.ofL_list]
        simp
    · refine gh_step h.gh h.byts (by omega) h.nx hj (fun v r h1 h2 h3 h4 => ?_)
      obtain ⟨t, g1, g2, g3⟩ := body_doc v h1 (by rw [h2, ht]; rfl)
      rw [g3, List.append_assoc, f1] at h3
      have hlt : m < 18446744073709551616 := by omega
      have g9 := FL.len_sz t
      obtain ⟨rfl, k2⟩ := vb_cancel _ _ _ _ hlt (by omega) h3
      refine ⟨t.list, by simp [newF_len], FL.Wd.names t g1, ?_, ?_⟩
      · rw [k2, renc_newF B t.list, FL.denc_is]
      · have := more_doc t
        omega
  · rw [tk_err bs (j + 1) er _ he]
    refine mode_bad h he (fun v r h1 h2 h3 h4 => ?_)
    obtain ⟨t, g1, g2, g3⟩ := body_doc v h1 (by rw [h2, ht]; rfl)
    have g9 := FL.len_sz t
    rw [g3, List.append_assoc] at h3
    have := nm_back bs (j + 1) t.list.length _ (by omega) h3
    rw [hnm] at this
    simp only [Prod.mk.injEq] at this
    exact he this.2.2
/-- more than are left: the bytes are no value's. -/
theorem many_no (h : Tg rb n₁ q p a bs pt W0 s st sa N i y j) (ht : tagAt bs j 0 = 7 ∨ tagAt bs j 0 = 8) (hN : N ≤ 512) (hm : 512 - N < (nm bs (j + 1) 0).1) : NoV bs := by
  have hj := h.jl
  have hij := h.ij
  refine gh_no h.gh h.byts (by omega) h.nx hj (fun v r h1 h2 h3 h4 => ?_)
  rcases ht with ht | ht
  · obtain ⟨t, g1, g2, g3⟩ := body_list v h1 (by rw [h2, ht]; rfl)
    have g9 := TL.len_sz t
    rw [g3, List.append_assoc] at h3
    have := nm_back bs (j + 1) t.list.length _ (by omega) h3
    rw [this] at hm
    simp only [] at hm
    omega
  · obtain ⟨t, g1, g2, g3⟩ := body_doc v h1 (by rw [h2, ht]; rfl)
    have g9 := FL.len_sz t
    rw [g3, List.append_assoc] at h3
    have := nm_back bs (j + 1) t.list.length _ (by omega) h3
    rw [this] at hm
    simp only [] at hm
    omega
end
end Go.Proofs.Ytehapglbenaikaa
