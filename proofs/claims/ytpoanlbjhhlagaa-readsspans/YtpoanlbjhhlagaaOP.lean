/- Spans and rows of keys that came in: what their reading says of memory. -/
import Derived.Test.YtpoanlbjhhlagaaRows
import Derived.Test.YtpoanlbjhhlagaaMU
import Derived.OpenShut
import Derived.ShutString
import Derived.ChangeOld
import Derived.Deep.Matrix
import Derived.Deep.Slices
import Derived.SizedLaws
namespace Go.Proofs.Ytpoanlbjhhlagaa
open Go.ChangeShapes Go.WideShapes Go.ChangeAt Go.RowKit Go.Deep
set_option linter.unusedVariables false

theorem own : ownKnob Try.prog.godebug = none := by kernel_rfl
theorem laidOut : laidOutB Try.prog = true := by kernel_rfl
/-- what a walk is told of a slice of integers that came in. -/
def IsRow (k : IntKind) (w : World) (a : Option Addr) (len cap : Nat) (zs : List Int) : Prop :=
  (a = none ∧ len = 0 ∧ cap = 0 ∧ zs = []) ∨
  ∃ x, a = some x ∧ len ≤ cap ∧ cap ≤ maxLen ∧ zs.length = cap ∧ (∀ i, i < zs.length → w.cell? (x.add i) = some (.int k (zs.getD i 0))) ∧ ∀ n ∈ zs, (Lit.int k n).wf = true
theorem isrow_inn {w : World} {a : Option Addr} {len cap : Nat} {zs : List Int} (h : IsRow .u8 w a len cap zs) : Inn w a len cap (zs.take len) := by
  rcases h with ⟨rfl, rfl, rfl, rfl⟩ | ⟨x, rfl, hl, hm, hz, hcell, hwz⟩
  · exact ⟨rfl, Nat.le_refl _, by omega, fun _ => ⟨rfl, rfl⟩, .inl rfl, (by intro c hc; simp at hc)⟩
  · have hlen : (zs.take len).length = len := by simp; omega
    refine ⟨hlen, hl, by unfold maxLen at hm; omega, by (intro h; cases h), ?_, ?_⟩
    · by_cases h0 : len = 0
      · subst h0; exact .inl rfl
      · obtain ⟨b, off, spot⟩ := x
        have hc := hcell 0 (by omega)
        have hspot : spot = none := by simpa [Addr.add] using World.cell?_spot hc
        subst hspot
        refine .inr ⟨b, off, rfl, ?_, fun i hi => ?_⟩
        · have := World.block_lt_of_cell? w _ hc
          rw [Addr.add_lit] at this
          exact this
        · rw [hlen] at hi
          have := hcell i (by omega)
          rw [Addr.add_lit] at this
          rw [this]; simp [hi]
    · intro c hc
      exact bounds_u8 (hwz c (List.mem_of_mem_take hc))


theorem cellsS : Try.prog.cellsOf 65 = 3 := by kernel_rfl
theorem cells5 : Try.prog.cellsOf 5 = 1 := by kernel_rfl
theorem cellsB : Try.prog.cellsOf 33 = 1 := by kernel_rfl
theorem cells4 : Try.prog.cellsOf 4 = 1 := by kernel_rfl
theorem bytesS : Try.prog.bytesOf 65 = 56 := by kernel_rfl
theorem bytesB : Try.prog.bytesOf 33 = 24 := by kernel_rfl
theorem bytes5 : Try.prog.bytesOf 5 = 1 := by kernel_rfl
variable {H : Type} {enc : TypeId × Value → H} {W : World}
theorem three_cells {P : Program} {t : TypeId} {f0 f1 f2 : Field} {ad : Addr} {i n : Nat} {y : DataW H × List MemPlace} {cs' : List Value} (he : P.underlying t = some (.struct #[f0, f1, f2]))
    (o0 : f0.offset = 0) (o1 : f1.offset = 1) (o2 : f2.offset = 2) (c0 : P.cellsOf f0.type = 1) (c1 : P.cellsOf f1.type = 1) (c2 : P.cellsOf f2.type = 1)
    (h1 : W.cells? 0 (ad.add (i * 3)) 3 = some cs') (h2 : DataW.trod enc P W 0 (fun _ => true) true n t cs' = some y) :
    ∃ (v0 v1 v2 : Value) (y0 y1 y2 : DataW H × List MemPlace) (k : Nat), y.1 = .agg [y0.1, y1.1, y2.1] ∧ W.cell? (ad.add (i * 3)) = some v0 ∧ W.cell? (ad.add (i * 3 + 1)) = some v1 ∧ W.cell? (ad.add (i * 3 + 2)) = some v2 ∧
      DataW.trod enc P W 0 (fun _ => true) true k f0.type [v0] = some y0 ∧ DataW.trod enc P W 0 (fun _ => true) true k f1.type [v1] = some y1 ∧ DataW.trod enc P W 0 (fun _ => true) true k f2.type [v2] = some y2 := by
  obtain ⟨_, hlen, hcell⟩ := World.cells?_some h1
  obtain ⟨xs, k, hk, hxy, _, hxl, hf⟩ := DataW.trod_struct he h2
  match xs, hxl, cs', hlen with
  | [y0, y1, y2], _, [v0, v1, v2], _ =>
    have g0 := hf 0 f0 rfl
    have g1 := hf 1 f1 rfl
    have g2 := hf 2 f2 rfl
    simp [o0, o1, o2, c0, c1, c2] at g0 g1 g2
    have e0 := hcell 0 (by omega)
    have e1 := hcell 1 (by omega)
    have e2 := hcell 2 (by omega)
    rw [add_add] at e0 e1 e2
    subst hxy
    exact ⟨v0, v1, v2, y0, y1, y2, k, by simp, by simpa using e0, by simpa using e1, by simpa using e2, g0, g1, g2⟩
theorem weights_mem {Q : Program} {e : TypeId} {d : DataW H} {l : List (DataW H)} (h : d ∈ l) {n : Nat} (hn : n ∈ d.weights Q e) : n ∈ DataW.weightsAll Q e l := by
  induction l with
  | nil => simp at h
  | cons x t ih =>
    rw [DataW.weightsAll]
    rcases List.mem_cons.1 h with rfl | h
    · exact List.mem_append.2 (.inl hn)
    · exact List.mem_append.2 (.inr (ih h))
theorem one_bytes {v : Value} {n : Nat} {y : DataW H × List MemPlace} (g : DataW.trod enc Try.prog W 0 (fun _ => true) true n 33 [v] = some y) :
    ∃ (a : Option Addr) (c : Nat) (zs : List Int), v = .slice a zs.length c ∧ Inn W a zs.length c zs ∧ (zs.length = 0 ∨ ∃ e s, y.1 = .slice e s ∧ zs.length ≤ e.length) := by
  rcases open_ints Try.underlying33 Try.underlying5 cells5 g with ⟨hcs, _⟩ | ⟨x, l, c, zs, hcs, _, hl, hm, hz, hx, hcell, hwz⟩
  · cases hcs
    exact ⟨none, 0, [], rfl, inn_nil W, .inl rfl⟩
  · cases hcs
    have hin := isrow_inn (.inr ⟨x, rfl, hl, hm, by simpa using hz, hcell, hwz⟩ : IsRow .u8 W (some x) l c zs)
    have hlen := hin.len
    refine ⟨some x, c, zs.take l, by rw [hlen], by rw [hlen]; exact hin, .inr ⟨_, _, by rw [hx], ?_⟩⟩
    rw [hlen]
    simp only [lits, List.length_map]
    omega
theorem one_span {ad : Addr} {i n : Nat} {y : DataW H × List MemPlace} {cs' : List Value} (h1 : W.cells? 0 (ad.add (i * 3)) 3 = some cs') (h2 : DataW.trod enc Try.prog W 0 (fun _ => true) true n 65 cs' = some y) :
    ∃ (x : En), W.cell? (ad.add (i * 3)) = some (.slice x.ka x.e.key.length x.kc) ∧ W.cell? (ad.add (i * 3 + 1)) = some (.slice x.va x.e.val.length x.vc) ∧ W.cell? (ad.add (i * 3 + 2)) = some (.bool x.e.del) ∧ x.Ok W ∧
      ∃ d0 d1 d2, y.1 = .agg [d0, d1, d2] ∧ (x.e.key.length = 0 ∨ ∃ e s, d0 = .slice e s ∧ x.e.key.length ≤ e.length) ∧ (x.e.val.length = 0 ∨ ∃ e s, d1 = .slice e s ∧ x.e.val.length ≤ e.length) := by
  obtain ⟨v0, v1, v2, y0, y1, y2, k, hy, e0, e1, e2, g0, g1, g2⟩ := three_cells Try.underlying65 rfl rfl rfl cellsB cellsB cells4 h1 h2
  obtain ⟨ka, kc, key, rfl, ik, sk⟩ := one_bytes g0
  obtain ⟨va, vc, val, rfl, iv, sv⟩ := one_bytes g1
  obtain ⟨b, r2, _⟩ := DataW.trod_bool Try.underlying4 g2
  cases r2
  exact ⟨⟨⟨key, val, b⟩, ka, kc, va, vc⟩, e0, e1, e2, ⟨ik, iv⟩, _, _, _, hy, sk, sv⟩
set_option maxRecDepth 1000000 in
theorem slice_wt (e s : List (DataW H)) : (e.length + s.length) * 1 ∈ (DataW.slice e s : DataW H).weights Try.prog 33 := by
  rw [DataW.weights, Try.underlying33]
  simp only []
  rw [bytes5]
  exact List.mem_cons_self ..
set_option maxRecDepth 1000000 in
theorem spans_sized {elems spare : List (DataW H)} (h : ((DataW.slice elems spare : DataW H).weights Try.prog 23).all (· ≤ reachBytes) = true) :
    elems.length ≤ reachBytes ∧ ∀ d0 d1 d2, DataW.agg [d0, d1, d2] ∈ elems → (∀ e s, d0 = .slice e s → e.length ≤ reachBytes) ∧ (∀ e s, d1 = .slice e s → e.length ≤ reachBytes) := by
  rw [DataW.weights, Try.underlying23] at h
  simp only [] at h
  rw [bytesS] at h
  have hall := List.all_eq_true.1 h
  constructor
  · have h1 := hall ((elems.length + spare.length) * 56) (List.mem_cons_self ..)
    have h2 := of_decide_eq_true h1
    omega
  · intro d0 d1 d2 hm
    constructor
    · intro e s hd
      subst hd
      have hw : (e.length + s.length) * 1 ∈ (DataW.agg [.slice e s, d1, d2] : DataW H).weights Try.prog 65 := by
        rw [DataW.weights, Try.underlying65]
        simp only [List.map_cons, List.map_nil, DataW.weightsEach]
        exact List.mem_append.2 (.inl (slice_wt e s))
      have h1 := hall _ (List.mem_cons_of_mem _ (List.mem_append.2 (.inl (weights_mem hm hw))))
      have h2 := of_decide_eq_true h1
      omega
    · intro e s hd
      subst hd
      have hw : (e.length + s.length) * 1 ∈ (DataW.agg [d0, .slice e s, d2] : DataW H).weights Try.prog 65 := by
        rw [DataW.weights, Try.underlying65]
        simp only [List.map_cons, List.map_nil, DataW.weightsEach]
        exact List.mem_append.2 (.inr (List.mem_append.2 (.inl (slice_wt e s))))
      have h1 := hall _ (List.mem_cons_of_mem _ (List.mem_append.2 (.inl (weights_mem hm hw))))
      have h2 := of_decide_eq_true h1
      omega
theorem spans_read {a : Option Addr} {len cap fuel : Nat} {x : DataW H × List MemPlace} (h : DataW.trod enc Try.prog W 0 (fun _ => true) true fuel 23 [.slice a len cap] = some x) (hsz : ((x.1).weights Try.prog 23).all (· ≤ reachBytes) = true) :
    ∃ xs, Ens W a len cap xs ∧ Szs xs := by
  rcases open_slice Try.underlying23 h with ⟨hcs, _⟩ | ⟨ad, l, c, m, n, D, Pl, hcs, hb, hl, hm, hmm, rfl, hx⟩
  · cases hcs
    exact ⟨[], ens_nil W, by simp, by simp⟩
  · cases hcs
    have hlm : len ≤ m := by rw [hmm]; split <;> omega
    have hin := spans_sized hsz
    rw [cellsS] at hx
    obtain ⟨O, hO⟩ := choose_lt (fun i (hi : i < len) => by
      obtain ⟨cs', h1, h2⟩ := hx i (by omega)
      exact one_span h1 h2)
    have hl2 : len ≤ 140737488355328 := by
      have := hin.1
      rw [List.length_map, List.length_range] at this
      unfold reachBytes at this
      omega
    have hlen : ((List.range len).map O).length = len := by simp
    have hget : ∀ k x, ((List.range len).map O)[k]? = some x → k < len ∧ x = O k := by
      intro k x hk
      obtain ⟨h1, h2⟩ := List.getElem?_eq_some_iff.1 hk
      simp at h1 h2
      exact ⟨h1, h2.symm⟩
    refine ⟨(List.range len).map O, ⟨hlen, hl, by unfold maxLen at hm; omega, (by intro e; cases e), ?_, ?_⟩, by rw [hlen]; exact hl2, ?_⟩
    · by_cases h0 : len = 0
      · subst h0; exact .inl rfl
      · obtain ⟨b, off, spot⟩ := ad
        have hc := (hO 0 (by omega)).1
        have hspot : spot = none := by simpa [Addr.add] using World.cell?_spot hc
        subst hspot
        refine .inr ⟨b, off, rfl, ?_, ?_⟩
        · have := World.block_lt_of_cell? W _ hc
          rw [Addr.add_lit] at this
          exact this
        · intro j u hu
          have hj : j < len * 3 := by have := (List.getElem?_eq_some_iff.1 hu).1; rwa [rowc_len, hlen] at this
          have hk : j / 3 < len := by omega
          have hgk : ((List.range len).map O)[j / 3]? = some (O (j / 3)) := by simp [hk]
          obtain ⟨q0, q1, q2, _⟩ := hO (j / 3) hk
          rw [Addr.add_lit] at q0 q1 q2
          have e : j = j / 3 * 3 + j % 3 := by omega
          have hm4 : j % 3 = 0 ∨ j % 3 = 1 ∨ j % 3 = 2 := by omega
          rcases hm4 with h4 | h4 | h4
          · have h5 := rowc_at hgk (j := 0) (u := .slice (O (j / 3)).ka (O (j / 3)).e.key.length (O (j / 3)).kc) rfl
            rw [e, h4] at hu ⊢
            rw [h5] at hu
            cases hu
            exact q0
          · have h5 := rowc_at hgk (j := 1) (u := .slice (O (j / 3)).va (O (j / 3)).e.val.length (O (j / 3)).vc) rfl
            rw [e, h4] at hu ⊢
            rw [h5] at hu
            cases hu
            exact q1
          · have h5 := rowc_at hgk (j := 2) (u := .bool (O (j / 3)).e.del) rfl
            rw [e, h4] at hu ⊢
            rw [h5] at hu
            cases hu
            exact q2
    · intro x hx2
      obtain ⟨k, hk, rfl⟩ := List.mem_map.1 hx2
      exact (hO k (List.mem_range.1 hk)).2.2.2.1
    · intro x hx2
      obtain ⟨k, hk, rfl⟩ := List.mem_map.1 hx2
      obtain ⟨_, _, _, _, d0, d1, d2, hy, hk0, hv0⟩ := hO k (List.mem_range.1 hk)
      have hmm2 := hin.2 d0 d1 d2 (List.mem_map.2 ⟨k, List.mem_range.2 (by have := List.mem_range.1 hk; omega), hy⟩)
      unfold reachBytes at hmm2
      refine ⟨?_, ?_⟩
      · rcases hk0 with h | ⟨e, s, hd, hle⟩
        · omega
        · have := hmm2.1 e s hd; omega
      · rcases hv0 with h | ⟨e, s, hd, hle⟩
        · omega
        · have := hmm2.2 e s hd; omega
set_option maxRecDepth 1000000 in
theorem spans_open {base0 : Nat} {r : Reach} {v : Value} {d : DataW H} {p : List MemPlace} (hval : Value.okWide Try.prog W r base0 23 v) (h : DataW.Trod enc Try.prog W 0 (fun _ => true) true 23 v d p) (hsz : (d.weights Try.prog 23).all (· ≤ reachBytes) = true) :
    ∃ (a : Option Addr) (n c : Nat) (xs : List En), v = .slice a n c ∧ Ens W a n c xs ∧ Szs xs := by
  obtain ⟨a, len, cap, rfl⟩ := okWide_slice Try.underlying23 hval
  obtain ⟨fuel, hf⟩ := h
  obtain ⟨xs, h1, h2⟩ := spans_read (fuel := fuel) (x := (d, p)) (by simpa [Value.cells] using hf) hsz
  exact ⟨a, len, cap, xs, rfl, h1, h2⟩
instance : Inhabited Ky := ⟨⟨[], none, 0⟩⟩
theorem one_row {ad : Addr} {i n : Nat} {y : DataW H × List MemPlace} {cs' : List Value} (h1 : W.cells? 0 (ad.add (i * 1)) 1 = some cs') (h2 : DataW.trod enc Try.prog W 0 (fun _ => true) true n 33 cs' = some y) :
    ∃ (x : Ky), W.cell? (ad.add i) = some (.slice x.ka x.key.length x.kc) ∧ Inn W x.ka x.key.length x.kc x.key ∧ (x.key.length = 0 ∨ ∃ e s, y.1 = .slice e s ∧ x.key.length ≤ e.length) := by
  obtain ⟨_, hlen, hcell⟩ := World.cells?_some h1
  match cs', hlen with
  | [v0], _ =>
    obtain ⟨ka, kc, key, rfl, ik, sk⟩ := one_bytes h2
    have e0 := hcell 0 (by omega)
    rw [add_add] at e0
    exact ⟨⟨key, ka, kc⟩, by simpa using e0, ik, sk⟩
set_option maxRecDepth 1000000 in
theorem rows_sized {elems spare : List (DataW H)} (h : ((DataW.slice elems spare : DataW H).weights Try.prog 22).all (· ≤ reachBytes) = true) :
    elems.length ≤ reachBytes ∧ ∀ e s, DataW.slice e s ∈ elems → e.length ≤ reachBytes := by
  rw [DataW.weights, Try.underlying22] at h
  simp only [] at h
  rw [bytesB] at h
  have hall := List.all_eq_true.1 h
  constructor
  · have h1 := hall ((elems.length + spare.length) * 24) (List.mem_cons_self ..)
    have h2 := of_decide_eq_true h1
    omega
  · intro e s hm
    have h1 := hall _ (List.mem_cons_of_mem _ (List.mem_append.2 (.inl (weights_mem hm (slice_wt e s)))))
    have h2 := of_decide_eq_true h1
    omega
theorem rows_read {a : Option Addr} {len cap fuel : Nat} {x : DataW H × List MemPlace} (h : DataW.trod enc Try.prog W 0 (fun _ => true) true fuel 22 [.slice a len cap] = some x) (hsz : ((x.1).weights Try.prog 22).all (· ≤ reachBytes) = true) :
    ∃ ks, Kys W a len cap ks ∧ Szk ks := by
  rcases open_slice Try.underlying22 h with ⟨hcs, _⟩ | ⟨ad, l, c, m, n, D, Pl, hcs, hb, hl, hm, hmm, rfl, hx⟩
  · cases hcs
    exact ⟨[], ⟨rfl, Nat.le_refl _, by omega, .inl rfl, by simp⟩, by simp, by simp⟩
  · cases hcs
    have hlm : len ≤ m := by rw [hmm]; split <;> omega
    have hin := rows_sized hsz
    rw [cellsB] at hx
    obtain ⟨O, hO⟩ := choose_lt (fun i (hi : i < len) => by
      obtain ⟨cs', h1, h2⟩ := hx i (by omega)
      exact one_row h1 h2)
    have hl2 : len ≤ 140737488355328 := by
      have := hin.1
      rw [List.length_map, List.length_range] at this
      unfold reachBytes at this
      omega
    have hlen : ((List.range len).map O).length = len := by simp
    refine ⟨(List.range len).map O, ⟨hlen, hl, by unfold maxLen at hm; omega, ?_, ?_⟩, by rw [hlen]; exact hl2, ?_⟩
    · by_cases h0 : len = 0
      · subst h0; exact .inl rfl
      · obtain ⟨b, off, spot⟩ := ad
        have hc := (hO 0 (by omega)).1
        have hspot : spot = none := by simpa [Addr.add] using World.cell?_spot hc
        subst hspot
        refine .inr ⟨b, off, rfl, ?_, ?_⟩
        · have := World.block_lt_of_cell? W _ hc
          rw [Addr.add_lit] at this
          exact this
        · intro k x hk
          obtain ⟨h1, h2⟩ := List.getElem?_eq_some_iff.1 hk
          simp at h1 h2
          subst h2
          have q0 := (hO k h1).1
          rw [Addr.add_lit] at q0
          exact q0
    · intro x hx2
      obtain ⟨k, hk, rfl⟩ := List.mem_map.1 hx2
      exact (hO k (List.mem_range.1 hk)).2.1
    · intro x hx2
      obtain ⟨k, hk, rfl⟩ := List.mem_map.1 hx2
      rcases (hO k (List.mem_range.1 hk)).2.2 with h | ⟨e, s, hd, hle⟩
      · omega
      · have hmm2 := hin.2 e s (List.mem_map.2 ⟨k, List.mem_range.2 (by have := List.mem_range.1 hk; omega), hd⟩)
        unfold reachBytes at hmm2
        omega
set_option maxRecDepth 1000000 in
theorem rows_open {base0 : Nat} {r : Reach} {v : Value} {d : DataW H} {p : List MemPlace} (hval : Value.okWide Try.prog W r base0 22 v) (h : DataW.Trod enc Try.prog W 0 (fun _ => true) true 22 v d p) (hsz : (d.weights Try.prog 22).all (· ≤ reachBytes) = true) :
    ∃ (a : Option Addr) (n c : Nat) (ks : List Ky), v = .slice a n c ∧ Kys W a n c ks ∧ Szk ks := by
  obtain ⟨a, len, cap, rfl⟩ := okWide_slice Try.underlying22 hval
  obtain ⟨fuel, hf⟩ := h
  obtain ⟨xs, h1, h2⟩ := rows_read (fuel := fuel) (x := (d, p)) (by simpa [Value.cells] using hf) hsz
  exact ⟨a, len, cap, xs, rfl, h1, h2⟩
end Go.Proofs.Ytpoanlbjhhlagaa
