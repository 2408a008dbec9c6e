/- Acts that came in: what their reading says of memory. -/
import Derived.Test.YtfcebpenjdhgbaaRows
import Derived.Test.YtfcebpenjdhgbaaTC
import Derived.OpenShut
import Derived.ShutString
import Derived.ChangeOld
import Derived.Deep.Matrix
import Derived.Deep.Slices
import Derived.SizedLaws
namespace Go.Proofs.Ytfcebpenjdhgbaa
open Go.ChangeShapes Go.WideShapes Go.ChangeAt Go.RowKit Go.Deep
set_option linter.unusedVariables false

theorem own : ownKnob Try.prog.godebug = none := by kernel_rfl
theorem laidOut : laidOutB Try.prog = true := by kernel_rfl
/-- what a walk is told of a slice of integers that came in. -/
def IsRow (k : IntKind) (w : World) (a : Option Addr) (len cap : Nat) (zs : List Int) : Prop :=
  (a = none ∧ len = 0 ∧ cap = 0 ∧ zs = []) ∨
  ∃ x, a = some x ∧ len ≤ cap ∧ cap ≤ maxLen ∧ zs.length = cap ∧ (∀ i, i < zs.length → w.cell? (x.add i) = some (.int k (zs.getD i 0))) ∧ ∀ n ∈ zs, (Lit.int k n).wf = true
theorem isrow_inn {w : World} {a : Option Addr} {len cap : Nat} {zs : List Int} (h : IsRow .u8 w a len cap zs) : Inn w a len cap (zs.take len) := by
  rcases h with ⟨rfl, rfl, rfl, rfl⟩ | ⟨x, rfl, hl, hm, hz, hcell, hwz⟩
  · exact ⟨rfl, Nat.le_refl _, by omega, fun _ => ⟨rfl, rfl⟩, .inl rfl, (by intro c hc; simp at hc)⟩
  · have hlen : (zs.take len).length = len := by simp; omega
    refine ⟨hlen, hl, by unfold maxLen at hm; omega, by (intro h; cases h), ?_, ?_⟩
    · by_cases h0 : len = 0
      · subst h0; exact .inl rfl
      · obtain ⟨b, off, spot⟩ := x
        have hc := hcell 0 (by omega)
        have hspot : spot = none := by simpa [Addr.add] using World.cell?_spot hc
        subst hspot
        refine .inr ⟨b, off, rfl, ?_, fun i hi => ?_⟩
        · have := World.block_lt_of_cell? w _ hc
          rw [Addr.add_lit] at this
          exact this
        · rw [hlen] at hi
          have := hcell i (by omega)
          rw [Addr.add_lit] at this
          rw [this]; simp [hi]
    · intro c hc
      exact bounds_u8 (hwz c (List.mem_of_mem_take hc))

/-- a call: its kind, its key and value, and where they lie; its bool, its number. -/
structure Ac where
  k : Nat
  da : Option Addr
  dc : Nat
  db : List Int
  ka : Option Addr
  kc : Nat
  kb : List Int
  inn : Bool
  of : Int
deriving Inhabited
structure Ac.Ok (w : World) (x : Ac) : Prop where
  data : Inn w x.da x.db.length x.dc x.db
  keep : Inn w x.ka x.kb.length x.kc x.kb
  k : x.k < 256
  of : -9223372036854775808 ≤ x.of ∧ x.of ≤ 9223372036854775807
/-- the cells of a call, from a place on. -/
structure Ac.At (w : World) (b o : Nat) (x : Ac) : Prop where
  c0 : w.cell? ⟨b, o, none⟩ = some (.int .u8 (x.k : Int))
  c1 : w.cell? ⟨b, o + 1, none⟩ = some (.slice x.da x.db.length x.dc)
  c2 : w.cell? ⟨b, o + 2, none⟩ = some (.slice x.ka x.kb.length x.kc)
  c3 : w.cell? ⟨b, o + 3, none⟩ = some (.bool x.inn)
  c4 : w.cell? ⟨b, o + 4, none⟩ = some (.int .i64 x.of)
/-- calls that lie in a row. -/
structure Acs (w : World) (a : Option Addr) (n c : Nat) (xs : List Ac) : Prop where
  len : xs.length = n
  row : xs = [] ∨ ∃ b off, a = some ⟨b, off, none⟩ ∧ b < w.heap.size ∧ ∀ (i : Nat) (x : Ac), xs[i]? = some x → x.At w b (off + i * 5)
  each : ∀ x ∈ xs, x.Ok w
def Sza (xs : List Ac) : Prop := xs.length ≤ 140737488355328 ∧ ∀ x ∈ xs, x.db.length ≤ 140737488355328 ∧ x.kb.length ≤ 140737488355328
theorem Acs.below {w w' : World} {a : Option Addr} {n c : Nat} {xs : List Ac} (h : Acs w a n c xs) (hb : Below w.heap.size w w') : Acs w' a n c xs := by
  refine ⟨h.len, ?_, fun x hx => ⟨(h.each x hx).data.below hb, (h.each x hx).keep.below hb, (h.each x hx).k, (h.each x hx).of⟩⟩
  rcases h.row with h0 | ⟨b, off, e, hlt, hc⟩
  · exact .inl h0
  · exact .inr ⟨b, off, e, Nat.lt_of_lt_of_le hlt hb.size, fun i x hx => ⟨(hb.cell (p := ⟨b, _, none⟩) hlt).trans (hc i x hx).c0, (hb.cell (p := ⟨b, _, none⟩) hlt).trans (hc i x hx).c1, (hb.cell (p := ⟨b, _, none⟩) hlt).trans (hc i x hx).c2, (hb.cell (p := ⟨b, _, none⟩) hlt).trans (hc i x hx).c3, (hb.cell (p := ⟨b, _, none⟩) hlt).trans (hc i x hx).c4⟩⟩
theorem Acs.at {w : World} {a : Option Addr} {n c : Nat} {xs : List Ac} (h : Acs w a n c xs) {k : Nat} (hk : k < n) : ∃ x b off, xs[k]? = some x ∧ a = some ⟨b, off, none⟩ ∧ b < w.heap.size ∧ x.At w b (off + k * 5) ∧ x.Ok w := by
  have hk' : k < xs.length := by rw [h.len]; exact hk
  have hx : xs[k]? = some xs[k] := List.getElem?_eq_getElem hk'
  rcases h.row with h0 | ⟨b, off, e, hlt, hc⟩
  · rw [h0] at hk'; simp at hk'
  · exact ⟨xs[k], b, off, hx, e, hlt, hc k _ hx, h.each _ (List.mem_of_getElem? hx)⟩

theorem cellsA : Try.prog.cellsOf 54 = 5 := by kernel_rfl
theorem cells5 : Try.prog.cellsOf 5 = 1 := by kernel_rfl
theorem cells3 : Try.prog.cellsOf 3 = 1 := by kernel_rfl
theorem cellsB : Try.prog.cellsOf 34 = 1 := by kernel_rfl
theorem cells4 : Try.prog.cellsOf 4 = 1 := by kernel_rfl
theorem bytesA : Try.prog.bytesOf 54 = 72 := by kernel_rfl
theorem bytes5 : Try.prog.bytesOf 5 = 1 := by kernel_rfl
variable {H : Type} {enc : TypeId × Value → H} {W : World}
theorem five_cells {P : Program} {t : TypeId} {f0 f1 f2 f3 f4 : Field} {ad : Addr} {i n : Nat} {y : DataW H × List MemPlace} {cs' : List Value} (he : P.underlying t = some (.struct #[f0, f1, f2, f3, f4]))
    (o0 : f0.offset = 0) (o1 : f1.offset = 1) (o2 : f2.offset = 2) (o3 : f3.offset = 3) (o4 : f4.offset = 4) (c0 : P.cellsOf f0.type = 1) (c1 : P.cellsOf f1.type = 1) (c2 : P.cellsOf f2.type = 1) (c3 : P.cellsOf f3.type = 1) (c4 : P.cellsOf f4.type = 1)
    (h1 : W.cells? 0 (ad.add (i * 5)) 5 = some cs') (h2 : DataW.trod enc P W 0 (fun _ => true) true n t cs' = some y) :
    ∃ (v0 v1 v2 v3 v4 : Value) (y0 y1 y2 y3 y4 : DataW H × List MemPlace) (k : Nat), y.1 = .agg [y0.1, y1.1, y2.1, y3.1, y4.1] ∧ W.cell? (ad.add (i * 5)) = some v0 ∧ W.cell? (ad.add (i * 5 + 1)) = some v1 ∧ W.cell? (ad.add (i * 5 + 2)) = some v2 ∧ W.cell? (ad.add (i * 5 + 3)) = some v3 ∧ W.cell? (ad.add (i * 5 + 4)) = some v4 ∧
      DataW.trod enc P W 0 (fun _ => true) true k f0.type [v0] = some y0 ∧ DataW.trod enc P W 0 (fun _ => true) true k f1.type [v1] = some y1 ∧ DataW.trod enc P W 0 (fun _ => true) true k f2.type [v2] = some y2 ∧ DataW.trod enc P W 0 (fun _ => true) true k f3.type [v3] = some y3 ∧ DataW.trod enc P W 0 (fun _ => true) true k f4.type [v4] = some y4 := by
  obtain ⟨_, hlen, hcell⟩ := World.cells?_some h1
  obtain ⟨xs, k, hk, hxy, _, hxl, hf⟩ := DataW.trod_struct he h2
  match xs, hxl, cs', hlen with
  | [y0, y1, y2, y3, y4], _, [v0, v1, v2, v3, v4], _ =>
    have g0 := hf 0 f0 rfl
    have g1 := hf 1 f1 rfl
    have g2 := hf 2 f2 rfl
    have g3 := hf 3 f3 rfl
    have g4 := hf 4 f4 rfl
    simp [o0, o1, o2, o3, o4, c0, c1, c2, c3, c4] at g0 g1 g2 g3 g4
    have e0 := hcell 0 (by omega)
    have e1 := hcell 1 (by omega)
    have e2 := hcell 2 (by omega)
    have e3 := hcell 3 (by omega)
    have e4 := hcell 4 (by omega)
    rw [add_add] at e0 e1 e2 e3 e4
    subst hxy
    exact ⟨v0, v1, v2, v3, v4, y0, y1, y2, y3, y4, k, by simp, by simpa using e0, by simpa using e1, by simpa using e2, by simpa using e3, by simpa using e4, g0, g1, g2, g3, g4⟩
theorem weights_mem {Q : Program} {e : TypeId} {d : DataW H} {l : List (DataW H)} (h : d ∈ l) {n : Nat} (hn : n ∈ d.weights Q e) : n ∈ DataW.weightsAll Q e l := by
  induction l with
  | nil => simp at h
  | cons x t ih =>
    rw [DataW.weightsAll]
    rcases List.mem_cons.1 h with rfl | h
    · exact List.mem_append.2 (.inl hn)
    · exact List.mem_append.2 (.inr (ih h))
theorem one_bytes {v : Value} {n : Nat} {y : DataW H × List MemPlace} (g : DataW.trod enc Try.prog W 0 (fun _ => true) true n 34 [v] = some y) :
    ∃ (a : Option Addr) (c : Nat) (zs : List Int), v = .slice a zs.length c ∧ Inn W a zs.length c zs ∧ (zs.length = 0 ∨ ∃ e s, y.1 = .slice e s ∧ zs.length ≤ e.length) := by
  rcases open_ints Try.underlying34 Try.underlying5 cells5 g with ⟨hcs, _⟩ | ⟨x, l, c, zs, hcs, _, hl, hm, hz, hx, hcell, hwz⟩
  · cases hcs
    exact ⟨none, 0, [], rfl, inn_nil W, .inl rfl⟩
  · cases hcs
    have hin := isrow_inn (.inr ⟨x, rfl, hl, hm, by simpa using hz, hcell, hwz⟩ : IsRow .u8 W (some x) l c zs)
    have hlen := hin.len
    refine ⟨some x, c, zs.take l, by rw [hlen], by rw [hlen]; exact hin, .inr ⟨_, _, by rw [hx], ?_⟩⟩
    rw [hlen]
    simp only [lits, List.length_map]
    omega
theorem one_act {ad : Addr} {i n : Nat} {y : DataW H × List MemPlace} {cs' : List Value} (h1 : W.cells? 0 (ad.add (i * 5)) 5 = some cs') (h2 : DataW.trod enc Try.prog W 0 (fun _ => true) true n 54 cs' = some y) :
    ∃ (x : Ac), (W.cell? (ad.add (i * 5)) = some (.int .u8 (x.k : Int)) ∧ W.cell? (ad.add (i * 5 + 1)) = some (.slice x.da x.db.length x.dc) ∧ W.cell? (ad.add (i * 5 + 2)) = some (.slice x.ka x.kb.length x.kc) ∧ W.cell? (ad.add (i * 5 + 3)) = some (.bool x.inn) ∧ W.cell? (ad.add (i * 5 + 4)) = some (.int .i64 x.of)) ∧ x.Ok W ∧
      ∃ d0 d1 d2 d3 d4, y.1 = .agg [d0, d1, d2, d3, d4] ∧ (x.db.length = 0 ∨ ∃ e s, d1 = .slice e s ∧ x.db.length ≤ e.length) ∧ (x.kb.length = 0 ∨ ∃ e s, d2 = .slice e s ∧ x.kb.length ≤ e.length) := by
  obtain ⟨v0, v1, v2, v3, v4, y0, y1, y2, y3, y4, k, hy, e0, e1, e2, e3, e4, g0, g1, g2, g3, g4⟩ := five_cells Try.underlying54 rfl rfl rfl rfl rfl cells5 cellsB cellsB cells4 cells3 h1 h2
  obtain ⟨z0, r0, _, w0⟩ := DataW.trod_int Try.underlying5 g0
  obtain ⟨z4, r4, _, w4⟩ := DataW.trod_int Try.underlying3 g4
  cases r0
  cases r4
  have b0 := bounds_u8 w0
  have b4 := bounds_i64 w4
  obtain ⟨K, rfl⟩ := Int.eq_ofNat_of_zero_le b0.1
  obtain ⟨da, dc, db, rfl, id, sd⟩ := one_bytes g1
  obtain ⟨ka, kc, kb, rfl, ik, sk⟩ := one_bytes g2
  obtain ⟨b3, r3, _⟩ := DataW.trod_bool Try.underlying4 g3
  cases r3
  exact ⟨⟨K, da, dc, db, ka, kc, kb, b3, z4⟩, ⟨e0, e1, e2, e3, e4⟩, ⟨id, ik, by simp only []; omega, b4⟩, _, _, _, _, _, hy, sd, sk⟩
set_option maxRecDepth 1000000 in
theorem slice_wt (e s : List (DataW H)) : (e.length + s.length) * 1 ∈ (DataW.slice e s : DataW H).weights Try.prog 34 := by
  rw [DataW.weights, Try.underlying34]
  simp only []
  rw [bytes5]
  exact List.mem_cons_self ..
set_option maxRecDepth 1000000 in
theorem acts_sized {elems spare : List (DataW H)} (h : ((DataW.slice elems spare : DataW H).weights Try.prog 23).all (· ≤ reachBytes) = true) :
    elems.length ≤ reachBytes ∧ ∀ d0 d1 d2 d3 d4, DataW.agg [d0, d1, d2, d3, d4] ∈ elems → (∀ e s, d1 = .slice e s → e.length ≤ reachBytes) ∧ (∀ e s, d2 = .slice e s → e.length ≤ reachBytes) := by
  rw [DataW.weights, Try.underlying23] at h
  simp only [] at h
  rw [bytesA] at h
  have hall := List.all_eq_true.1 h
  constructor
  · have h1 := hall ((elems.length + spare.length) * 72) (List.mem_cons_self ..)
    have h2 := of_decide_eq_true h1
    omega
  · intro d0 d1 d2 d3 d4 hm
    constructor
    · intro e s hd
      subst hd
      have hw : (e.length + s.length) * 1 ∈ (DataW.agg [d0, .slice e s, d2, d3, d4] : DataW H).weights Try.prog 54 := by
        rw [DataW.weights, Try.underlying54]
        simp only [List.map_cons, List.map_nil, DataW.weightsEach]
        exact List.mem_append.2 (.inr (List.mem_append.2 (.inl (slice_wt e s))))
      have h1 := hall _ (List.mem_cons_of_mem _ (List.mem_append.2 (.inl (weights_mem hm hw))))
      have h2 := of_decide_eq_true h1
      omega
    · intro e s hd
      subst hd
      have hw : (e.length + s.length) * 1 ∈ (DataW.agg [d0, d1, .slice e s, d3, d4] : DataW H).weights Try.prog 54 := by
        rw [DataW.weights, Try.underlying54]
        simp only [List.map_cons, List.map_nil, DataW.weightsEach]
        exact List.mem_append.2 (.inr (List.mem_append.2 (.inr (List.mem_append.2 (.inl (slice_wt e s))))))
      have h1 := hall _ (List.mem_cons_of_mem _ (List.mem_append.2 (.inl (weights_mem hm hw))))
      have h2 := of_decide_eq_true h1
      omega
theorem acts_read {a : Option Addr} {len cap fuel : Nat} {x : DataW H × List MemPlace} (h : DataW.trod enc Try.prog W 0 (fun _ => true) true fuel 23 [.slice a len cap] = some x) (hsz : ((x.1).weights Try.prog 23).all (· ≤ reachBytes) = true) :
    ∃ xs, Acs W a len cap xs ∧ Sza xs := by
  rcases open_slice Try.underlying23 h with ⟨hcs, _⟩ | ⟨ad, l, c, m, n, D, Pl, hcs, hb, hl, hm, hmm, rfl, hx⟩
  · cases hcs
    exact ⟨[], ⟨rfl, .inl rfl, by simp⟩, by simp, by simp⟩
  · cases hcs
    have hlm : len ≤ m := by rw [hmm]; split <;> omega
    have hin := acts_sized hsz
    rw [cellsA] at hx
    obtain ⟨O, hO⟩ := choose_lt (fun i (hi : i < len) => by
      obtain ⟨cs', h1, h2⟩ := hx i (by omega)
      exact one_act h1 h2)
    have hl2 : len ≤ 140737488355328 := by
      have := hin.1
      rw [List.length_map, List.length_range] at this
      unfold reachBytes at this
      omega
    have hlen : ((List.range len).map O).length = len := by simp
    have hget : ∀ k x, ((List.range len).map O)[k]? = some x → k < len ∧ x = O k := by
      intro k x hk
      obtain ⟨h1, h2⟩ := List.getElem?_eq_some_iff.1 hk
      simp at h1 h2
      exact ⟨h1, h2.symm⟩
    refine ⟨(List.range len).map O, ⟨hlen, ?_, ?_⟩, by rw [hlen]; exact hl2, ?_⟩
    · by_cases h0 : len = 0
      · subst h0; exact .inl rfl
      · obtain ⟨b, off, spot⟩ := ad
        have hc := (hO 0 (by omega)).1.1
        have hspot : spot = none := by simpa [Addr.add] using World.cell?_spot hc
        subst hspot
        refine .inr ⟨b, off, rfl, ?_, ?_⟩
        · have := World.block_lt_of_cell? W _ hc
          rw [Addr.add_lit] at this
          exact this
        · intro k x hk
          obtain ⟨hkl, rfl⟩ := hget k x hk
          obtain ⟨q0, q1, q2, q3, q4⟩ := (hO k hkl).1
          rw [Addr.add_lit] at q0 q1 q2 q3 q4
          exact ⟨q0, q1, q2, q3, q4⟩
    · intro x hx2
      obtain ⟨k, hk, rfl⟩ := List.mem_map.1 hx2
      exact (hO k (List.mem_range.1 hk)).2.1
    · intro x hx2
      obtain ⟨k, hk, rfl⟩ := List.mem_map.1 hx2
      obtain ⟨_, _, d0, d1, d2, d3, d4, hy, hk0, hv0⟩ := hO k (List.mem_range.1 hk)
      have hmm2 := hin.2 d0 d1 d2 d3 d4 (List.mem_map.2 ⟨k, List.mem_range.2 (by have := List.mem_range.1 hk; omega), hy⟩)
      unfold reachBytes at hmm2
      refine ⟨?_, ?_⟩
      · rcases hk0 with h | ⟨e, s, hd, hle⟩
        · omega
        · have := hmm2.1 e s hd; omega
      · rcases hv0 with h | ⟨e, s, hd, hle⟩
        · omega
        · have := hmm2.2 e s hd; omega
set_option maxRecDepth 1000000 in
theorem acts_open {base0 : Nat} {r : Reach} {v : Value} {d : DataW H} {p : List MemPlace} (hval : Value.okWide Try.prog W r base0 23 v) (h : DataW.Trod enc Try.prog W 0 (fun _ => true) true 23 v d p) (hsz : (d.weights Try.prog 23).all (· ≤ reachBytes) = true) :
    ∃ (a : Option Addr) (n c : Nat) (xs : List Ac), v = .slice a n c ∧ Acs W a n c xs ∧ Sza xs := by
  obtain ⟨a, len, cap, rfl⟩ := okWide_slice Try.underlying23 hval
  obtain ⟨fuel, hf⟩ := h
  obtain ⟨xs, h1, h2⟩ := acts_read (fuel := fuel) (x := (d, p)) (by simpa [Value.cells] using hf) hsz
  exact ⟨a, len, cap, xs, rfl, h1, h2⟩
end Go.Proofs.Ytfcebpenjdhgbaa
