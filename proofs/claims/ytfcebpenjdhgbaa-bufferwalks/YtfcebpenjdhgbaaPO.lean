/- Pairs that came in: what their reading says of memory. -/
import Derived.Test.YtfcebpenjdhgbaaAC
import Derived.Test.YtfcebpenjdhgbaaPD
namespace Go.Proofs.Ytfcebpenjdhgbaa
open Go.ChangeShapes Go.WideShapes Go.ChangeAt Go.RowKit Go.Deep
set_option linter.unusedVariables false
def Szp (us : List En) : Prop := us.length ≤ 140737488351232 ∧ ∀ u ∈ us, u.e.key.length ≤ 140737488351232 ∧ u.e.val.length ≤ 140737488351232
theorem cellsPr : Try.prog.cellsOf 40 = 2 := by kernel_rfl
theorem bytesPr : Try.prog.bytesOf 40 = 48 := by kernel_rfl
theorem prs_none (w : World) : Prs w none 0 0 [] := ⟨rfl, fun _ => ⟨rfl, rfl⟩, Nat.le_refl _, by omega, .inl rfl, by intro x hx; simp at hx⟩
variable {H : Type} {enc : TypeId × Value → H} {W : World}
theorem two_cells {P : Program} {t : TypeId} {f0 f1 : Field} {ad : Addr} {i n : Nat} {y : DataW H × List MemPlace} {cs' : List Value} (he : P.underlying t = some (.struct #[f0, f1]))
    (o0 : f0.offset = 0) (o1 : f1.offset = 1) (c0 : P.cellsOf f0.type = 1) (c1 : P.cellsOf f1.type = 1)
    (h1 : W.cells? 0 (ad.add (i * 2)) 2 = some cs') (h2 : DataW.trod enc P W 0 (fun _ => true) true n t cs' = some y) :
    ∃ (v0 v1 : Value) (y0 y1 : DataW H × List MemPlace) (k : Nat), y.1 = .agg [y0.1, y1.1] ∧ W.cell? (ad.add (i * 2)) = some v0 ∧ W.cell? (ad.add (i * 2 + 1)) = some v1 ∧
      DataW.trod enc P W 0 (fun _ => true) true k f0.type [v0] = some y0 ∧ DataW.trod enc P W 0 (fun _ => true) true k f1.type [v1] = some y1 := by
  obtain ⟨_, hlen, hcell⟩ := World.cells?_some h1
  obtain ⟨xs, k, hk, hxy, _, hxl, hf⟩ := DataW.trod_struct he h2
  match xs, hxl, cs', hlen with
  | [y0, y1], _, [v0, v1], _ =>
    have g0 := hf 0 f0 rfl
    have g1 := hf 1 f1 rfl
    simp [o0, o1, c0, c1] at g0 g1
    have e0 := hcell 0 (by omega)
    have e1 := hcell 1 (by omega)
    rw [add_add] at e0 e1
    subst hxy
    exact ⟨v0, v1, y0, y1, k, by simp, by simpa using e0, by simpa using e1, g0, g1⟩
theorem one_pair {ad : Addr} {i n : Nat} {y : DataW H × List MemPlace} {cs' : List Value} (h1 : W.cells? 0 (ad.add (i * 2)) 2 = some cs') (h2 : DataW.trod enc Try.prog W 0 (fun _ => true) true n 40 cs' = some y) :
    ∃ (x : En), (W.cell? (ad.add (i * 2)) = some (.slice x.ka x.e.key.length x.kc) ∧ W.cell? (ad.add (i * 2 + 1)) = some (.slice x.va x.e.val.length x.vc)) ∧ x.Ok W ∧
      ∃ d0 d1, y.1 = .agg [d0, d1] ∧ (x.e.key.length = 0 ∨ ∃ e s, d0 = .slice e s ∧ x.e.key.length ≤ e.length) ∧ (x.e.val.length = 0 ∨ ∃ e s, d1 = .slice e s ∧ x.e.val.length ≤ e.length) := by
  obtain ⟨v0, v1, y0, y1, k, hy, e0, e1, g0, g1⟩ := two_cells Try.underlying40 rfl rfl cellsB cellsB h1 h2
  obtain ⟨da, dc, db, rfl, id, sd⟩ := one_bytes g0
  obtain ⟨ka, kc, kb, rfl, ik, sk⟩ := one_bytes g1
  exact ⟨⟨⟨db, kb, false⟩, da, dc, ka, kc⟩, ⟨e0, e1⟩, ⟨id, ik⟩, _, _, hy, sd, sk⟩
set_option maxRecDepth 1000000 in
theorem pairs_sized {elems spare : List (DataW H)} (h : ((DataW.slice elems spare : DataW H).weights Try.prog 22).all (· ≤ reachBytes) = true) :
    elems.length ≤ reachBytes ∧ ∀ d0 d1, DataW.agg [d0, d1] ∈ elems → (∀ e s, d0 = .slice e s → e.length ≤ reachBytes) ∧ (∀ e s, d1 = .slice e s → e.length ≤ reachBytes) := by
  rw [DataW.weights, Try.underlying22] at h
  simp only [] at h
  rw [bytesPr] at h
  have hall := List.all_eq_true.1 h
  constructor
  · have h1 := hall ((elems.length + spare.length) * 48) (List.mem_cons_self ..)
    have h2 := of_decide_eq_true h1
    omega
  · intro d0 d1 hm
    constructor
    · intro e s hd
      subst hd
      have hw : (e.length + s.length) * 1 ∈ (DataW.agg [.slice e s, d1] : DataW H).weights Try.prog 40 := by
        rw [DataW.weights, Try.underlying40]
        simp only [List.map_cons, List.map_nil, DataW.weightsEach]
        exact List.mem_append.2 (.inl (slice_wt e s))
      have h1 := hall _ (List.mem_cons_of_mem _ (List.mem_append.2 (.inl (weights_mem hm hw))))
      have h2 := of_decide_eq_true h1
      omega
    · intro e s hd
      subst hd
      have hw : (e.length + s.length) * 1 ∈ (DataW.agg [d0, .slice e s] : DataW H).weights Try.prog 40 := by
        rw [DataW.weights, Try.underlying40]
        simp only [List.map_cons, List.map_nil, DataW.weightsEach]
        exact List.mem_append.2 (.inr (List.mem_append.2 (.inl (slice_wt e s))))
      have h1 := hall _ (List.mem_cons_of_mem _ (List.mem_append.2 (.inl (weights_mem hm hw))))
      have h2 := of_decide_eq_true h1
      omega
theorem pairs_read {a : Option Addr} {len cap fuel : Nat} {x : DataW H × List MemPlace} (h : DataW.trod enc Try.prog W 0 (fun _ => true) true fuel 22 [.slice a len cap] = some x) (hsz : ((x.1).weights Try.prog 22).all (· ≤ reachBytes) = true) :
    ∃ xs, Prs W a len cap xs ∧ Szp xs := by
  rcases open_slice Try.underlying22 h with ⟨hcs, _⟩ | ⟨ad, l, c, m, n, D, Pl, hcs, hb, hl, hm, hmm, rfl, hx⟩
  · cases hcs
    exact ⟨[], prs_none W, by simp, by simp⟩
  · cases hcs
    have hlm : len ≤ m := by rw [hmm]; split <;> omega
    have hin := pairs_sized hsz
    rw [cellsPr] at hx
    obtain ⟨O, hO⟩ := choose_lt (fun i (hi : i < len) => by
      obtain ⟨cs', h1, h2⟩ := hx i (by omega)
      exact one_pair h1 h2)
    have hl2 : len ≤ 140737488351232 := by
      have := hin.1
      rw [List.length_map, List.length_range] at this
      unfold reachBytes at this
      omega
    have hlen : ((List.range len).map O).length = len := by simp
    have hget : ∀ k x, ((List.range len).map O)[k]? = some x → k < len ∧ x = O k := by
      intro k x hk
      obtain ⟨h1, h2⟩ := List.getElem?_eq_some_iff.1 hk
      simp at h1 h2
      exact ⟨h1, h2.symm⟩
    refine ⟨(List.range len).map O, ⟨hlen, (by intro e; cases e), by omega, by unfold maxLen at *; omega, ?_, ?_⟩, by rw [hlen]; exact hl2, ?_⟩
    · by_cases h0 : len = 0
      · subst h0; exact .inl rfl
      · obtain ⟨b, off, spot⟩ := ad
        have hc := (hO 0 (by omega)).1.1
        have hspot : spot = none := by simpa [Addr.add] using World.cell?_spot hc
        subst hspot
        refine .inr ⟨b, off, rfl, ?_, ?_⟩
        · have := World.block_lt_of_cell? W _ hc
          rw [Addr.add_lit] at this
          exact this
        · intro k x hk
          obtain ⟨hkl, rfl⟩ := hget k x hk
          obtain ⟨q0, q1⟩ := (hO k hkl).1
          rw [Addr.add_lit] at q0 q1
          exact ⟨q0, by rw [← Nat.add_assoc] at q1; exact q1⟩
    · intro x hx2
      obtain ⟨k, hk, rfl⟩ := List.mem_map.1 hx2
      exact (hO k (List.mem_range.1 hk)).2.1
    · intro x hx2
      obtain ⟨k, hk, rfl⟩ := List.mem_map.1 hx2
      obtain ⟨_, _, d0, d1, hy, hk0, hv0⟩ := hO k (List.mem_range.1 hk)
      have hmm2 := hin.2 d0 d1 (List.mem_map.2 ⟨k, List.mem_range.2 (by have := List.mem_range.1 hk; omega), hy⟩)
      unfold reachBytes at hmm2
      refine ⟨?_, ?_⟩
      · rcases hk0 with h | ⟨e, s, hd, hle⟩
        · omega
        · have := hmm2.1 e s hd; omega
      · rcases hv0 with h | ⟨e, s, hd, hle⟩
        · omega
        · have := hmm2.2 e s hd; omega
set_option maxRecDepth 1000000 in
theorem pairs_open {base0 : Nat} {r : Reach} {v : Value} {d : DataW H} {p : List MemPlace} (hval : Value.okWide Try.prog W r base0 22 v) (h : DataW.Trod enc Try.prog W 0 (fun _ => true) true 22 v d p) (hsz : (d.weights Try.prog 22).all (· ≤ reachBytes) = true) :
    ∃ (a : Option Addr) (n c : Nat) (us : List En), v = .slice a n c ∧ Prs W a n c us ∧ Szp us := by
  obtain ⟨a, len, cap, rfl⟩ := okWide_slice Try.underlying22 hval
  obtain ⟨fuel, hf⟩ := h
  obtain ⟨xs, h1, h2⟩ := pairs_read (fuel := fuel) (x := (d, p)) (by simpa [Value.cells] using hf) hsz
  exact ⟨a, len, cap, xs, rfl, h1, h2⟩
end Go.Proofs.Ytfcebpenjdhgbaa
