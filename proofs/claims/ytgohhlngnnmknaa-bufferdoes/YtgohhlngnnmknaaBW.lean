/- Acts that came in: what their reading says of memory. -/
import Derived.Test.YtgohhlngnnmknaaRows
import Derived.Test.YtgohhlngnnmknaaLC
import Derived.OpenShut
import Derived.ShutString
import Derived.ChangeOld
import Derived.Deep.Matrix
import Derived.Deep.Slices
import Derived.SizedLaws
import Derived.Test.YtgohhlngnnmknaaPD
import Derived.Test.YtgohhlngnnmknaaZG
import Derived.Test.YtgohhlngnnmknaaWM
namespace Go.Proofs.Ytgohhlngnnmknaa
open Go.ChangeShapes Go.WideShapes Go.ChangeAt Go.RowKit Go.Deep
set_option linter.unusedVariables false

theorem own : ownKnob Try.prog.godebug = none := by kernel_rfl
theorem laidOut : laidOutB Try.prog = true := by kernel_rfl
/-- what a walk is told of a slice of integers that came in. -/
def IsRow (k : IntKind) (w : World) (a : Option Addr) (len cap : Nat) (zs : List Int) : Prop :=
  (a = none ∧ len = 0 ∧ cap = 0 ∧ zs = []) ∨
  ∃ x, a = some x ∧ len ≤ cap ∧ cap ≤ maxLen ∧ zs.length = cap ∧ (∀ i, i < zs.length → w.cell? (x.add i) = some (.int k (zs.getD i 0))) ∧ ∀ n ∈ zs, (Lit.int k n).wf = true
theorem isrow_inn {w : World} {a : Option Addr} {len cap : Nat} {zs : List Int} (h : IsRow .u8 w a len cap zs) : Inn w a len cap (zs.take len) := by
  rcases h with ⟨rfl, rfl, rfl, rfl⟩ | ⟨x, rfl, hl, hm, hz, hcell, hwz⟩
  · exact ⟨rfl, Nat.le_refl _, by omega, fun _ => ⟨rfl, rfl⟩, .inl rfl, (by intro c hc; simp at hc)⟩
  · have hlen : (zs.take len).length = len := by simp; omega
    refine ⟨hlen, hl, by unfold maxLen at hm; omega, by (intro h; cases h), ?_, ?_⟩
    · by_cases h0 : len = 0
      · subst h0; exact .inl rfl
      · obtain ⟨b, off, spot⟩ := x
        have hc := hcell 0 (by omega)
        have hspot : spot = none := by simpa [Addr.add] using World.cell?_spot hc
        subst hspot
        refine .inr ⟨b, off, rfl, ?_, fun i hi => ?_⟩
        · have := World.block_lt_of_cell? w _ hc
          rw [Addr.add_lit] at this
          exact this
        · rw [hlen] at hi
          have := hcell i (by omega)
          rw [Addr.add_lit] at this
          rw [this]; simp [hi]
    · intro c hc
      exact bounds_u8 (hwz c (List.mem_of_mem_take hc))

/-- a call: its kind, its key and value, and where they lie; its bool, its number. -/
structure Ac where
  k : Nat
  da : Option Addr
  dc : Nat
  db : List Int
  ka : Option Addr
  kc : Nat
  kb : List Int
  inn : Bool
  of : Int
deriving Inhabited
structure Ac.Ok (w : World) (x : Ac) : Prop where
  data : Inn w x.da x.db.length x.dc x.db
  keep : Inn w x.ka x.kb.length x.kc x.kb
  k : x.k < 256
  of : -9223372036854775808 ≤ x.of ∧ x.of ≤ 9223372036854775807
/-- the cells of a call, from a place on. -/
structure Ac.At (w : World) (b o : Nat) (x : Ac) : Prop where
  c0 : w.cell? ⟨b, o, none⟩ = some (.int .u8 (x.k : Int))
  c1 : w.cell? ⟨b, o + 1, none⟩ = some (.slice x.da x.db.length x.dc)
  c2 : w.cell? ⟨b, o + 2, none⟩ = some (.slice x.ka x.kb.length x.kc)
  c3 : w.cell? ⟨b, o + 3, none⟩ = some (.bool x.inn)
  c4 : w.cell? ⟨b, o + 4, none⟩ = some (.int .i64 x.of)
/-- calls that lie in a row. -/
structure Acs (w : World) (a : Option Addr) (n c : Nat) (xs : List Ac) : Prop where
  len : xs.length = n
  row : xs = [] ∨ ∃ b off, a = some ⟨b, off, none⟩ ∧ b < w.heap.size ∧ ∀ (i : Nat) (x : Ac), xs[i]? = some x → x.At w b (off + i * 5)
  each : ∀ x ∈ xs, x.Ok w
def Sza (xs : List Ac) : Prop := xs.length ≤ 140737488355328 ∧ ∀ x ∈ xs, x.db.length ≤ 140737488355328 ∧ x.kb.length ≤ 140737488355328
theorem Acs.below {w w' : World} {a : Option Addr} {n c : Nat} {xs : List Ac} (h : Acs w a n c xs) (hb : Below w.heap.size w w') : Acs w' a n c xs := by
  refine ⟨h.len, ?_, fun x hx => ⟨(h.each x hx).data.below hb, (h.each x hx).keep.below hb, (h.each x hx).k, (h.each x hx).of⟩⟩
  rcases h.row with h0 | ⟨b, off, e, hlt, hc⟩
  · exact .inl h0
  · exact .inr ⟨b, off, e, Nat.lt_of_lt_of_le hlt hb.size, fun i x hx => ⟨(hb.cell (p := ⟨b, _, none⟩) hlt).trans (hc i x hx).c0, (hb.cell (p := ⟨b, _, none⟩) hlt).trans (hc i x hx).c1, (hb.cell (p := ⟨b, _, none⟩) hlt).trans (hc i x hx).c2, (hb.cell (p := ⟨b, _, none⟩) hlt).trans (hc i x hx).c3, (hb.cell (p := ⟨b, _, none⟩) hlt).trans (hc i x hx).c4⟩⟩
theorem Acs.at {w : World} {a : Option Addr} {n c : Nat} {xs : List Ac} (h : Acs w a n c xs) {k : Nat} (hk : k < n) : ∃ x b off, xs[k]? = some x ∧ a = some ⟨b, off, none⟩ ∧ b < w.heap.size ∧ x.At w b (off + k * 5) ∧ x.Ok w := by
  have hk' : k < xs.length := by rw [h.len]; exact hk
  have hx : xs[k]? = some xs[k] := List.getElem?_eq_getElem hk'
  rcases h.row with h0 | ⟨b, off, e, hlt, hc⟩
  · rw [h0] at hk'; simp at hk'
  · exact ⟨xs[k], b, off, hx, e, hlt, hc k _ hx, h.each _ (List.mem_of_getElem? hx)⟩

theorem cellsA : Try.prog.cellsOf 62 = 5 := by kernel_rfl
theorem cells5 : Try.prog.cellsOf 5 = 1 := by kernel_rfl
theorem cells3 : Try.prog.cellsOf 3 = 1 := by kernel_rfl
theorem cellsB : Try.prog.cellsOf 60 = 1 := by kernel_rfl
theorem cells4 : Try.prog.cellsOf 4 = 1 := by kernel_rfl
theorem bytesA : Try.prog.bytesOf 62 = 72 := by kernel_rfl
theorem bytes5 : Try.prog.bytesOf 5 = 1 := by kernel_rfl
variable {H : Type} {enc : TypeId × Value → H} {W : World}
theorem five_cells {P : Program} {t : TypeId} {f0 f1 f2 f3 f4 : Field} {ad : Addr} {i n : Nat} {y : DataW H × List MemPlace} {cs' : List Value} (he : P.underlying t = some (.struct #[f0, f1, f2, f3, f4]))
    (o0 : f0.offset = 0) (o1 : f1.offset = 1) (o2 : f2.offset = 2) (o3 : f3.offset = 3) (o4 : f4.offset = 4) (c0 : P.cellsOf f0.type = 1) (c1 : P.cellsOf f1.type = 1) (c2 : P.cellsOf f2.type = 1) (c3 : P.cellsOf f3.type = 1) (c4 : P.cellsOf f4.type = 1)
    (h1 : W.cells? 0 (ad.add (i * 5)) 5 = some cs') (h2 : DataW.trod enc P W 0 (fun _ => true) true n t cs' = some y) :
    ∃ (v0 v1 v2 v3 v4 : Value) (y0 y1 y2 y3 y4 : DataW H × List MemPlace) (k : Nat), y.1 = .agg [y0.1, y1.1, y2.1, y3.1, y4.1] ∧ W.cell? (ad.add (i * 5)) = some v0 ∧ W.cell? (ad.add (i * 5 + 1)) = some v1 ∧ W.cell? (ad.add (i * 5 + 2)) = some v2 ∧ W.cell? (ad.add (i * 5 + 3)) = some v3 ∧ W.cell? (ad.add (i * 5 + 4)) = some v4 ∧
      DataW.trod enc P W 0 (fun _ => true) true k f0.type [v0] = some y0 ∧ DataW.trod enc P W 0 (fun _ => true) true k f1.type [v1] = some y1 ∧ DataW.trod enc P W 0 (fun _ => true) true k f2.type [v2] = some y2 ∧ DataW.trod enc P W 0 (fun _ => true) true k f3.type [v3] = some y3 ∧ DataW.trod enc P W 0 (fun _ => true) true k f4.type [v4] = some y4 := by
  obtain ⟨_, hlen, hcell⟩ := World.cells?_some h1
  obtain ⟨xs, k, hk, hxy, _, hxl, hf⟩ := DataW.trod_struct he h2
  match xs, hxl, cs', hlen with
  | [y0, y1, y2, y3, y4], _, [v0, v1, v2, v3, v4], _ =>
    have g0 := hf 0 f0 rfl
    have g1 := hf 1 f1 rfl
    have g2 := hf 2 f2 rfl
    have g3 := hf 3 f3 rfl
    have g4 := hf 4 f4 rfl
    simp [o0, o1, o2, o3, o4, c0, c1, c2, c3, c4] at g0 g1 g2 g3 g4
    have e0 := hcell 0 (by omega)
    have e1 := hcell 1 (by omega)
    have e2 := hcell 2 (by omega)
    have e3 := hcell 3 (by omega)
    have e4 := hcell 4 (by omega)
    rw [add_add] at e0 e1 e2 e3 e4
    subst hxy
    exact ⟨v0, v1, v2, v3, v4, y0, y1, y2, y3, y4, k, by simp, by simpa using e0, by simpa using e1, by simpa using e2, by simpa using e3, by simpa using e4, g0, g1, g2, g3, g4⟩
theorem weights_mem {Q : Program} {e : TypeId} {d : DataW H} {l : List (DataW H)} (h : d ∈ l) {n : Nat} (hn : n ∈ d.weights Q e) : n ∈ DataW.weightsAll Q e l := by
  induction l with
  | nil => simp at h
  | cons x t ih =>
    rw [DataW.weightsAll]
    rcases List.mem_cons.1 h with rfl | h
    · exact List.mem_append.2 (.inl hn)
    · exact List.mem_append.2 (.inr (ih h))
theorem one_bytes {v : Value} {n : Nat} {y : DataW H × List MemPlace} (g : DataW.trod enc Try.prog W 0 (fun _ => true) true n 60 [v] = some y) :
    ∃ (a : Option Addr) (c : Nat) (zs : List Int), v = .slice a zs.length c ∧ Inn W a zs.length c zs ∧ (zs.length = 0 ∨ ∃ e s, y.1 = .slice e s ∧ zs.length ≤ e.length) := by
  rcases open_ints Try.underlying60 Try.underlying5 cells5 g with ⟨hcs, _⟩ | ⟨x, l, c, zs, hcs, _, hl, hm, hz, hx, hcell, hwz⟩
  · cases hcs
    exact ⟨none, 0, [], rfl, inn_nil W, .inl rfl⟩
  · cases hcs
    have hin := isrow_inn (.inr ⟨x, rfl, hl, hm, by simpa using hz, hcell, hwz⟩ : IsRow .u8 W (some x) l c zs)
    have hlen := hin.len
    refine ⟨some x, c, zs.take l, by rw [hlen], by rw [hlen]; exact hin, .inr ⟨_, _, by rw [hx], ?_⟩⟩
    rw [hlen]
    simp only [lits, List.length_map]
    omega
theorem one_act {ad : Addr} {i n : Nat} {y : DataW H × List MemPlace} {cs' : List Value} (h1 : W.cells? 0 (ad.add (i * 5)) 5 = some cs') (h2 : DataW.trod enc Try.prog W 0 (fun _ => true) true n 62 cs' = some y) :
    ∃ (x : Ac), (W.cell? (ad.add (i * 5)) = some (.int .u8 (x.k : Int)) ∧ W.cell? (ad.add (i * 5 + 1)) = some (.slice x.da x.db.length x.dc) ∧ W.cell? (ad.add (i * 5 + 2)) = some (.slice x.ka x.kb.length x.kc) ∧ W.cell? (ad.add (i * 5 + 3)) = some (.bool x.inn) ∧ W.cell? (ad.add (i * 5 + 4)) = some (.int .i64 x.of)) ∧ x.Ok W ∧
      ∃ d0 d1 d2 d3 d4, y.1 = .agg [d0, d1, d2, d3, d4] ∧ (x.db.length = 0 ∨ ∃ e s, d1 = .slice e s ∧ x.db.length ≤ e.length) ∧ (x.kb.length = 0 ∨ ∃ e s, d2 = .slice e s ∧ x.kb.length ≤ e.length) := by
  obtain ⟨v0, v1, v2, v3, v4, y0, y1, y2, y3, y4, k, hy, e0, e1, e2, e3, e4, g0, g1, g2, g3, g4⟩ := five_cells Try.underlying62 rfl rfl rfl rfl rfl cells5 cellsB cellsB cells4 cells3 h1 h2
  obtain ⟨z0, r0, _, w0⟩ := DataW.trod_int Try.underlying5 g0
  obtain ⟨z4, r4, _, w4⟩ := DataW.trod_int Try.underlying3 g4
  cases r0
  cases r4
  have b0 := bounds_u8 w0
  have b4 := bounds_i64 w4
  obtain ⟨K, rfl⟩ := Int.eq_ofNat_of_zero_le b0.1
  obtain ⟨da, dc, db, rfl, id, sd⟩ := one_bytes g1
  obtain ⟨ka, kc, kb, rfl, ik, sk⟩ := one_bytes g2
  obtain ⟨b3, r3, _⟩ := DataW.trod_bool Try.underlying4 g3
  cases r3
  exact ⟨⟨K, da, dc, db, ka, kc, kb, b3, z4⟩, ⟨e0, e1, e2, e3, e4⟩, ⟨id, ik, by simp only []; omega, b4⟩, _, _, _, _, _, hy, sd, sk⟩
set_option maxRecDepth 1000000 in
theorem slice_wt (e s : List (DataW H)) : (e.length + s.length) * 1 ∈ (DataW.slice e s : DataW H).weights Try.prog 60 := by
  rw [DataW.weights, Try.underlying60]
  simp only []
  rw [bytes5]
  exact List.mem_cons_self ..
set_option maxRecDepth 1000000 in
theorem acts_sized {elems spare : List (DataW H)} (h : ((DataW.slice elems spare : DataW H).weights Try.prog 23).all (· ≤ reachBytes) = true) :
    elems.length ≤ reachBytes ∧ ∀ d0 d1 d2 d3 d4, DataW.agg [d0, d1, d2, d3, d4] ∈ elems → (∀ e s, d1 = .slice e s → e.length ≤ reachBytes) ∧ (∀ e s, d2 = .slice e s → e.length ≤ reachBytes) := by
  rw [DataW.weights, Try.underlying23] at h
  simp only [] at h
  rw [bytesA] at h
  have hall := List.all_eq_true.1 h
  constructor
  · have h1 := hall ((elems.length + spare.length) * 72) (List.mem_cons_self ..)
    have h2 := of_decide_eq_true h1
    omega
  · intro d0 d1 d2 d3 d4 hm
    constructor
    · intro e s hd
      subst hd
      have hw : (e.length + s.length) * 1 ∈ (DataW.agg [d0, .slice e s, d2, d3, d4] : DataW H).weights Try.prog 62 := by
        rw [DataW.weights, Try.underlying62]
        simp only [List.map_cons, List.map_nil, DataW.weightsEach]
        exact List.mem_append.2 (.inr (List.mem_append.2 (.inl (slice_wt e s))))
      have h1 := hall _ (List.mem_cons_of_mem _ (List.mem_append.2 (.inl (weights_mem hm hw))))
      have h2 := of_decide_eq_true h1
      omega
    · intro e s hd
      subst hd
      have hw : (e.length + s.length) * 1 ∈ (DataW.agg [d0, d1, .slice e s, d3, d4] : DataW H).weights Try.prog 62 := by
        rw [DataW.weights, Try.underlying62]
        simp only [List.map_cons, List.map_nil, DataW.weightsEach]
        exact List.mem_append.2 (.inr (List.mem_append.2 (.inr (List.mem_append.2 (.inl (slice_wt e s))))))
      have h1 := hall _ (List.mem_cons_of_mem _ (List.mem_append.2 (.inl (weights_mem hm hw))))
      have h2 := of_decide_eq_true h1
      omega
theorem acts_read {a : Option Addr} {len cap fuel : Nat} {x : DataW H × List MemPlace} (h : DataW.trod enc Try.prog W 0 (fun _ => true) true fuel 23 [.slice a len cap] = some x) (hsz : ((x.1).weights Try.prog 23).all (· ≤ reachBytes) = true) :
    ∃ xs, Acs W a len cap xs ∧ Sza xs := by
  rcases open_slice Try.underlying23 h with ⟨hcs, _⟩ | ⟨ad, l, c, m, n, D, Pl, hcs, hb, hl, hm, hmm, rfl, hx⟩
  · cases hcs
    exact ⟨[], ⟨rfl, .inl rfl, by simp⟩, by simp, by simp⟩
  · cases hcs
    have hlm : len ≤ m := by rw [hmm]; split <;> omega
    have hin := acts_sized hsz
    rw [cellsA] at hx
    obtain ⟨O, hO⟩ := choose_lt (fun i (hi : i < len) => by
      obtain ⟨cs', h1, h2⟩ := hx i (by omega)
      exact one_act h1 h2)
    have hl2 : len ≤ 140737488355328 := by
      have := hin.1
      rw [List.length_map, List.length_range] at this
      unfold reachBytes at this
      omega
    have hlen : ((List.range len).map O).length = len := by simp
    have hget : ∀ k x, ((List.range len).map O)[k]? = some x → k < len ∧ x = O k := by
      intro k x hk
      obtain ⟨h1, h2⟩ := List.getElem?_eq_some_iff.1 hk
      simp at h1 h2
      exact ⟨h1, h2.symm⟩
    refine ⟨(List.range len).map O, ⟨hlen, ?_, ?_⟩, by rw [hlen]; exact hl2, ?_⟩
    · by_cases h0 : len = 0
      · subst h0; exact .inl rfl
      · obtain ⟨b, off, spot⟩ := ad
        have hc := (hO 0 (by omega)).1.1
        have hspot : spot = none := by simpa [Addr.add] using World.cell?_spot hc
        subst hspot
        refine .inr ⟨b, off, rfl, ?_, ?_⟩
        · have := World.block_lt_of_cell? W _ hc
          rw [Addr.add_lit] at this
          exact this
        · intro k x hk
          obtain ⟨hkl, rfl⟩ := hget k x hk
          obtain ⟨q0, q1, q2, q3, q4⟩ := (hO k hkl).1
          rw [Addr.add_lit] at q0 q1 q2 q3 q4
          exact ⟨q0, q1, q2, q3, q4⟩
    · intro x hx2
      obtain ⟨k, hk, rfl⟩ := List.mem_map.1 hx2
      exact (hO k (List.mem_range.1 hk)).2.1
    · intro x hx2
      obtain ⟨k, hk, rfl⟩ := List.mem_map.1 hx2
      obtain ⟨_, _, d0, d1, d2, d3, d4, hy, hk0, hv0⟩ := hO k (List.mem_range.1 hk)
      have hmm2 := hin.2 d0 d1 d2 d3 d4 (List.mem_map.2 ⟨k, List.mem_range.2 (by have := List.mem_range.1 hk; omega), hy⟩)
      unfold reachBytes at hmm2
      refine ⟨?_, ?_⟩
      · rcases hk0 with h | ⟨e, s, hd, hle⟩
        · omega
        · have := hmm2.1 e s hd; omega
      · rcases hv0 with h | ⟨e, s, hd, hle⟩
        · omega
        · have := hmm2.2 e s hd; omega
set_option maxRecDepth 1000000 in
theorem acts_open {base0 : Nat} {r : Reach} {v : Value} {d : DataW H} {p : List MemPlace} (hval : Value.okWide Try.prog W r base0 23 v) (h : DataW.Trod enc Try.prog W 0 (fun _ => true) true 23 v d p) (hsz : (d.weights Try.prog 23).all (· ≤ reachBytes) = true) :
    ∃ (a : Option Addr) (n c : Nat) (xs : List Ac), v = .slice a n c ∧ Acs W a n c xs ∧ Sza xs := by
  obtain ⟨a, len, cap, rfl⟩ := okWide_slice Try.underlying23 hval
  obtain ⟨fuel, hf⟩ := h
  obtain ⟨xs, h1, h2⟩ := acts_read (fuel := fuel) (x := (d, p)) (by simpa [Value.cells] using hf) hsz
  exact ⟨a, len, cap, xs, rfl, h1, h2⟩
end Go.Proofs.Ytgohhlngnnmknaa
/- Pairs that came in: what their reading says of memory. -/
namespace Go.Proofs.Ytgohhlngnnmknaa
open Go.ChangeShapes Go.WideShapes Go.ChangeAt Go.RowKit Go.Deep
set_option linter.unusedVariables false
def Szp (us : List En) : Prop := us.length ≤ 140737488351232 ∧ ∀ u ∈ us, u.e.key.length ≤ 140737488351232 ∧ u.e.val.length ≤ 140737488351232
theorem cellsPr : Try.prog.cellsOf 74 = 2 := by kernel_rfl
theorem bytesPr : Try.prog.bytesOf 74 = 48 := by kernel_rfl
theorem prs_none (w : World) : Prs w none 0 0 [] := ⟨rfl, fun _ => ⟨rfl, rfl⟩, Nat.le_refl _, by omega, .inl rfl, by intro x hx; simp at hx⟩
variable {H : Type} {enc : TypeId × Value → H} {W : World}
theorem two_cells {P : Program} {t : TypeId} {f0 f1 : Field} {ad : Addr} {i n : Nat} {y : DataW H × List MemPlace} {cs' : List Value} (he : P.underlying t = some (.struct #[f0, f1]))
    (o0 : f0.offset = 0) (o1 : f1.offset = 1) (c0 : P.cellsOf f0.type = 1) (c1 : P.cellsOf f1.type = 1)
    (h1 : W.cells? 0 (ad.add (i * 2)) 2 = some cs') (h2 : DataW.trod enc P W 0 (fun _ => true) true n t cs' = some y) :
    ∃ (v0 v1 : Value) (y0 y1 : DataW H × List MemPlace) (k : Nat), y.1 = .agg [y0.1, y1.1] ∧ W.cell? (ad.add (i * 2)) = some v0 ∧ W.cell? (ad.add (i * 2 + 1)) = some v1 ∧
      DataW.trod enc P W 0 (fun _ => true) true k f0.type [v0] = some y0 ∧ DataW.trod enc P W 0 (fun _ => true) true k f1.type [v1] = some y1 := by
  obtain ⟨_, hlen, hcell⟩ := World.cells?_some h1
  obtain ⟨xs, k, hk, hxy, _, hxl, hf⟩ := DataW.trod_struct he h2
  match xs, hxl, cs', hlen with
  | [y0, y1], _, [v0, v1], _ =>
    have g0 := hf 0 f0 rfl
    have g1 := hf 1 f1 rfl
    simp [o0, o1, c0, c1] at g0 g1
    have e0 := hcell 0 (by omega)
    have e1 := hcell 1 (by omega)
    rw [add_add] at e0 e1
    subst hxy
    exact ⟨v0, v1, y0, y1, k, by simp, by simpa using e0, by simpa using e1, g0, g1⟩
theorem one_pair {ad : Addr} {i n : Nat} {y : DataW H × List MemPlace} {cs' : List Value} (h1 : W.cells? 0 (ad.add (i * 2)) 2 = some cs') (h2 : DataW.trod enc Try.prog W 0 (fun _ => true) true n 74 cs' = some y) :
    ∃ (x : En), (W.cell? (ad.add (i * 2)) = some (.slice x.ka x.e.key.length x.kc) ∧ W.cell? (ad.add (i * 2 + 1)) = some (.slice x.va x.e.val.length x.vc)) ∧ x.Ok W ∧
      ∃ d0 d1, y.1 = .agg [d0, d1] ∧ (x.e.key.length = 0 ∨ ∃ e s, d0 = .slice e s ∧ x.e.key.length ≤ e.length) ∧ (x.e.val.length = 0 ∨ ∃ e s, d1 = .slice e s ∧ x.e.val.length ≤ e.length) := by
  obtain ⟨v0, v1, y0, y1, k, hy, e0, e1, g0, g1⟩ := two_cells Try.underlying74 rfl rfl cellsB cellsB h1 h2
  obtain ⟨da, dc, db, rfl, id, sd⟩ := one_bytes g0
  obtain ⟨ka, kc, kb, rfl, ik, sk⟩ := one_bytes g1
  exact ⟨⟨⟨db, kb, false⟩, da, dc, ka, kc⟩, ⟨e0, e1⟩, ⟨id, ik⟩, _, _, hy, sd, sk⟩
set_option maxRecDepth 1000000 in
theorem pairs_sized {elems spare : List (DataW H)} (h : ((DataW.slice elems spare : DataW H).weights Try.prog 22).all (· ≤ reachBytes) = true) :
    elems.length ≤ reachBytes ∧ ∀ d0 d1, DataW.agg [d0, d1] ∈ elems → (∀ e s, d0 = .slice e s → e.length ≤ reachBytes) ∧ (∀ e s, d1 = .slice e s → e.length ≤ reachBytes) := by
  rw [DataW.weights, Try.underlying22] at h
  simp only [] at h
  rw [bytesPr] at h
  have hall := List.all_eq_true.1 h
  constructor
  · have h1 := hall ((elems.length + spare.length) * 48) (List.mem_cons_self ..)
    have h2 := of_decide_eq_true h1
    omega
  · intro d0 d1 hm
    constructor
    · intro e s hd
      subst hd
      have hw : (e.length + s.length) * 1 ∈ (DataW.agg [.slice e s, d1] : DataW H).weights Try.prog 74 := by
        rw [DataW.weights, Try.underlying74]
        simp only [List.map_cons, List.map_nil, DataW.weightsEach]
        exact List.mem_append.2 (.inl (slice_wt e s))
      have h1 := hall _ (List.mem_cons_of_mem _ (List.mem_append.2 (.inl (weights_mem hm hw))))
      have h2 := of_decide_eq_true h1
      omega
    · intro e s hd
      subst hd
      have hw : (e.length + s.length) * 1 ∈ (DataW.agg [d0, .slice e s] : DataW H).weights Try.prog 74 := by
        rw [DataW.weights, Try.underlying74]
        simp only [List.map_cons, List.map_nil, DataW.weightsEach]
        exact List.mem_append.2 (.inr (List.mem_append.2 (.inl (slice_wt e s))))
      have h1 := hall _ (List.mem_cons_of_mem _ (List.mem_append.2 (.inl (weights_mem hm hw))))
      have h2 := of_decide_eq_true h1
      omega
theorem pairs_read {a : Option Addr} {len cap fuel : Nat} {x : DataW H × List MemPlace} (h : DataW.trod enc Try.prog W 0 (fun _ => true) true fuel 22 [.slice a len cap] = some x) (hsz : ((x.1).weights Try.prog 22).all (· ≤ reachBytes) = true) :
    ∃ xs, Prs W a len cap xs ∧ Szp xs := by
  rcases open_slice Try.underlying22 h with ⟨hcs, _⟩ | ⟨ad, l, c, m, n, D, Pl, hcs, hb, hl, hm, hmm, rfl, hx⟩
  · cases hcs
    exact ⟨[], prs_none W, by simp, by simp⟩
  · cases hcs
    have hlm : len ≤ m := by rw [hmm]; split <;> omega
    have hin := pairs_sized hsz
    rw [cellsPr] at hx
    obtain ⟨O, hO⟩ := choose_lt (fun i (hi : i < len) => by
      obtain ⟨cs', h1, h2⟩ := hx i (by omega)
      exact one_pair h1 h2)
    have hl2 : len ≤ 140737488351232 := by
      have := hin.1
      rw [List.length_map, List.length_range] at this
      unfold reachBytes at this
      omega
    have hlen : ((List.range len).map O).length = len := by simp
    have hget : ∀ k x, ((List.range len).map O)[k]? = some x → k < len ∧ x = O k := by
      intro k x hk
      obtain ⟨h1, h2⟩ := List.getElem?_eq_some_iff.1 hk
      simp at h1 h2
      exact ⟨h1, h2.symm⟩
    refine ⟨(List.range len).map O, ⟨hlen, (by intro e; cases e), by omega, by unfold maxLen at *; omega, ?_, ?_⟩, by rw [hlen]; exact hl2, ?_⟩
    · by_cases h0 : len = 0
      · subst h0; exact .inl rfl
      · obtain ⟨b, off, spot⟩ := ad
        have hc := (hO 0 (by omega)).1.1
        have hspot : spot = none := by simpa [Addr.add] using World.cell?_spot hc
        subst hspot
        refine .inr ⟨b, off, rfl, ?_, ?_⟩
        · have := World.block_lt_of_cell? W _ hc
          rw [Addr.add_lit] at this
          exact this
        · intro k x hk
          obtain ⟨hkl, rfl⟩ := hget k x hk
          obtain ⟨q0, q1⟩ := (hO k hkl).1
          rw [Addr.add_lit] at q0 q1
          exact ⟨q0, by rw [← Nat.add_assoc] at q1; exact q1⟩
    · intro x hx2
      obtain ⟨k, hk, rfl⟩ := List.mem_map.1 hx2
      exact (hO k (List.mem_range.1 hk)).2.1
    · intro x hx2
      obtain ⟨k, hk, rfl⟩ := List.mem_map.1 hx2
      obtain ⟨_, _, d0, d1, hy, hk0, hv0⟩ := hO k (List.mem_range.1 hk)
      have hmm2 := hin.2 d0 d1 (List.mem_map.2 ⟨k, List.mem_range.2 (by have := List.mem_range.1 hk; omega), hy⟩)
      unfold reachBytes at hmm2
      refine ⟨?_, ?_⟩
      · rcases hk0 with h | ⟨e, s, hd, hle⟩
        · omega
        · have := hmm2.1 e s hd; omega
      · rcases hv0 with h | ⟨e, s, hd, hle⟩
        · omega
        · have := hmm2.2 e s hd; omega
set_option maxRecDepth 1000000 in
theorem pairs_open {base0 : Nat} {r : Reach} {v : Value} {d : DataW H} {p : List MemPlace} (hval : Value.okWide Try.prog W r base0 22 v) (h : DataW.Trod enc Try.prog W 0 (fun _ => true) true 22 v d p) (hsz : (d.weights Try.prog 22).all (· ≤ reachBytes) = true) :
    ∃ (a : Option Addr) (n c : Nat) (us : List En), v = .slice a n c ∧ Prs W a n c us ∧ Szp us := by
  obtain ⟨a, len, cap, rfl⟩ := okWide_slice Try.underlying22 hval
  obtain ⟨fuel, hf⟩ := h
  obtain ⟨xs, h1, h2⟩ := pairs_read (fuel := fuel) (x := (d, p)) (by simpa [Value.cells] using hf) hsz
  exact ⟨a, len, cap, xs, rfl, h1, h2⟩
end Go.Proofs.Ytgohhlngnnmknaa
/- Are the calls more than is looked at? -/
namespace Go.Proofs.Ytgohhlngnnmknaa
open Go.RowKit
set_option linter.unusedVariables false

def Mu (xs : List Ac) (k r : Nat) : Prop := ∀ i x, i < k → xs[i]? = some x → x.db.length / 8 ≤ r ∧ x.kb.length / 8 ≤ r
theorem Mu.zero (xs : List Ac) (r : Nat) : Mu xs 0 r := fun i x hi => by omega
theorem Mu.next {xs : List Ac} {k r d : Nat} {x : Ac} (h : Mu xs k r) (hx : xs[k]? = some x) (hd : x.db.length / 8 + x.kb.length / 8 ≤ d) : Mu xs (k + 1) (r + d) := by
  intro i y hi hy
  by_cases e : i = k
  · subst e
    rw [hx] at hy
    cases hy
    omega
  · have := h i y (by omega) hy
    omega
def MuchOut (xs : List Ac) (e : Ending) : Prop := e = .returned (.bool true) ∨ (e = .returned (.bool false) ∧ xs.length ≤ 300 ∧ ∀ x ∈ xs, x.db.length ≤ 30000 ∧ x.kb.length ≤ 30000)
set_option maxHeartbeats 3200000 in
set_option maxRecDepth 1000000 in
theorem much_any (a : Option Addr) (n c : Nat) (xs : List Ac) (w : World) (h : Acs w a n c xs) (hs : Sza xs) :
    Calls Try.prog 4 #[.slice a n c] w fun e w' => MuchOut xs e ∧ Below w.heap.size w w' := by
  have HE := hide h
  have HS := hide hs
  have hnn : n ≤ 140737488355328 := by have := hs.1; rwa [h.len] at this
  clear h hs
  go_enter Try.func4, Try.ntmps4
  go_wp2
  go_loopw [3, 4] (fun s i wr => ∃ (k r : Nat), k ≤ n ∧ i = .int .i64 (k : Int) ∧ s = .int .i64 (r : Int) ∧ r ≤ 422212500000000 ∧ n ≤ r ∧ Hid (Mu xs k r) ∧ Below w.heap.size w wr) (fun _ i _ => n - (intOf i).toNat)
  case atStart => exact ⟨0, n, Nat.zero_le _, rfl, rfl, by omega, Nat.le_refl _, hide (Mu.zero xs n), Below.refl _ _⟩
  case round =>
    obtain ⟨k, r, hk, rfl, rfl, hr, hnr, HMu, hb⟩ := hrel
    have HB := hide hb
    clear hb
    by_cases hlt : k < n
    · have d1 : (k : Int) < (n : Int) := by omega
      by_cases hr2 : r ≤ 3000
      · have d2 : (r : Int) ≤ 3000 := by omega
        obtain ⟨x, b, off, hx, rfl, hbl, hat, hok⟩ := (HE.out.below HB.out).at hlt
        have hsz := HS.out.2 x (List.mem_of_getElem? hx)
        have l1 : x.db.length ≤ 140737488355328 := hsz.1
        have l2 : x.kb.length ≤ 140737488355328 := hsz.2
        have c1 : ∀ q, (wr.drewN q).cell? ⟨b, off + k * 5 + 1, none⟩ = some (.slice x.da x.db.length x.dc) := fun q => hat.c1
        have c2 : ∀ q, (wr.drewN q).cell? ⟨b, off + k * 5 + 2, none⟩ = some (.slice x.ka x.kb.length x.kc) := fun q => hat.c2
        have HM1 : Hid (∀ d, x.db.length / 8 + x.kb.length / 8 ≤ d → Mu xs (k + 1) (r + d)) := hide (fun d hd => HMu.out.next hx hd)
        clear hx hat hok hsz
        generalize x.db.length = ld at *
        generalize x.kb.length = lk at *
        go_wp2
        go_quiet (fail)
        have HBn := hide (below_drewN HB.out nq)
        clear c1 c2
        generalize wr.drewN nq = wn at *
        go_wp2
        refine ⟨⟨k + 1, r + (ld / 8 + lk / 8), by omega, by go_num, by go_num, by omega, by omega, hide (HM1.out _ (by omega)), HBn.out⟩, ?_⟩
        simp [intOf]; omega
      · have d2 : ¬ (r : Int) ≤ 3000 := by omega
        have d3 : (3000 : Int) < (r : Int) := by omega
        go_wp2
        go_ret
        exact ⟨.inl rfl, HB.out⟩
    · have d1 : ¬ (k : Int) < (n : Int) := by omega
      by_cases hr2 : r ≤ 3000
      · have d2 : ¬ (3000 : Int) < (r : Int) := by omega
        by_cases hn3 : n ≤ 300
        · have d3 : ¬ (300 : Int) < (n : Int) := by omega
          go_wp2
          go_ret
          exact ⟨.inr ⟨rfl, by rw [HE.out.len]; exact hn3, fun x hx => by
            obtain ⟨i, hi, e⟩ := List.getElem_of_mem hx
            have hl := HE.out.len
            have := HMu.out i x (by omega) (by rw [List.getElem?_eq_getElem hi, e])
            omega⟩, HB.out⟩
        · have d3 : (300 : Int) < (n : Int) := by omega
          go_wp2
          go_ret
          exact ⟨.inl rfl, HB.out⟩
      · have d2 : (3000 : Int) < (r : Int) := by omega
        go_wp2
        go_ret
        exact ⟨.inl rfl, HB.out⟩
end Go.Proofs.Ytgohhlngnnmknaa
/- BufferDoes: the walk. -/
namespace Go.Proofs.Ytgohhlngnnmknaa
open Go.RowKit Go.Maps
set_option linter.unusedVariables false

/-- nothing said yet, of any of the three. -/
theorem dn_new {w2 w6 : World} {p B0 : Nat} (hst : St w2 p B0 [] 0 [] (fun k => k = p)) (h6 : Below w2.heap.size w2 w6) {pr q : Nat} (hr : w6.heap[pr]? = some (.cells #[.slice none 0 0] 32 (0, 0))) (hk : Bo.Bk w6 q Bo.nilf) (hpr : w2.heap.size ≤ pr) (hq : w2.heap.size ≤ q) : Dn B0 0 (fun _ => False) w6 p [] [] pr q := by
  obtain ⟨E, hs, hE⟩ := St2.new hst
  have hp := hst.plt
  have nb : ∀ k, ¬ Bo.blks (.slice none 0 0) k := fun k hk => by simp [Bo.blks, Value.ownBlock] at hk
  have no : ∀ k, Bd.own q Bo.nilf 0 (fun _ => none) 0 (fun _ => none) 0 (fun _ => none) k → k = q := fun k hk => by
    rcases hk with rfl | h | ⟨i, hi, _⟩ | h | ⟨i, hi, _⟩ | h | ⟨i, hi, _⟩
    · rfl
    · exact absurd h (nb k)
    · omega
    · exact absurd h (nb k)
    · omega
    · exact absurd h (nb k)
    · omega
  refine ⟨[], _, E, .slice none 0 0, [], Bo.nilf, 0, fun _ => none, fun _ => 0, fun _ => [], 0, fun _ => none, fun _ => 0, fun _ => [], 0, fun _ => none, fun _ => 0, fun _ => [], ⟨hs.below h6, ⟨hr, ⟨rfl, .inl ⟨rfl, rfl⟩⟩, by simp, fun _ => ⟨none, rfl⟩⟩, ⟨hk, fun _ _ _ _ => rfl, ⟨by decide, ⟨rfl, .inl ⟨rfl, rfl⟩⟩, by intro i hi; omega, by intro i j hi; omega⟩, ⟨by decide, ⟨rfl, .inl ⟨rfl, rfl⟩⟩, by intro i hi; omega, by intro i j hi; omega⟩, ⟨by decide, ⟨rfl, .inl ⟨rfl, rfl⟩⟩, by intro i hi; omega, by intro i j hi; omega⟩, by intro i hi; omega⟩, fun j hj => ?_, fun j _ e => by simp [Value.ownBlock] at e, fun j hj ho => ?_, fun j e => by simp [Value.ownBlock] at e, ⟨by omega, fun j e => by simp [Value.ownBlock] at e, fun j hj => ?_⟩, fun j hj => hj.elim, by intro i hi; omega, by intro i hi; omega⟩, rfl, by omega, by omega, by omega, by simp, by simp, by simp, by simp⟩
  · have : j = 0 := by simpa using hj
    subst this; rfl
  · have := no j ho
    omega
  · have := no j hj
    omega
/-- a list of the call's own stays over a put into the book. -/
theorem Cl.ky {B B0 : Nat} {w W : World} {v : Value} {ys : List En} (h : Cl B w v ys) (hk : Ky B0 w W) : Cl B W v ys := by
  refine h.of_block (fun k hk' => ?_) (fun y hy k hk' => ?_)
  · obtain ⟨_, _, cur, hc⟩ := h.block hk'
    exact (hk.change hc).trans hc.symm
  · obtain ⟨c, hc⟩ := (h.each y hy).u8 hk'
    exact (hk.x.u8 hc).trans hc.symm
theorem cl_is {C q : Nat} {w : World} {es : List Ee} {ys : List En} (h : Cl C w (.slice (some ⟨q, 0, none⟩) es.length es.length) ys) (he : ers ys = es) : Ens w (some ⟨q, 0, none⟩) es.length es.length ys := by
  obtain ⟨a4, c4, e4, hE4⟩ := h.ens
  have hyl : ys.length = es.length := by have := congrArg List.length he; rwa [ers_len] at this
  rw [hyl] at e4 hE4
  cases e4
  exact hE4
theorem lf (L : List Ee) : (L.foldl put []).length ≤ L.length := by have := len_fold L []; simpa using this
set_option maxHeartbeats 12800000 in
set_option maxRecDepth 1000000 in
theorem does_walk (a : Option Addr) (n c : Nat) (us : List En) (b : Option Addr) (m d : Nat) (xs : List Ac) (w : World) (hU : Prs w a n c us) (hL : Acs w b m d xs) (su : Szp us) (sl : Sza xs) :
    Calls Try.prog 3 #[.slice a n c, .slice b m d] w fun e w' => e = .returned (.bool true) ∧ Below w.heap.size w w' := by
  have HU := hide hU
  have HL := hide hL
  have SU := hide su
  have HMu := hide (much_any b m d xs w hL sl)
  clear hU hL su sl
  go_enter Try.func3, Try.ntmps3
  go_wp2_with fail
  refine HMu.out.mono ?_
  rintro e w1 ⟨hmu, hb1⟩
  have HB1 := hide hb1
  clear hb1 HMu
  rcases hmu with rfl | ⟨rfl, hn, hsm⟩
  · go_wp2
    go_ret
    exact ⟨rfl, HB1.out⟩
  by_cases h200 : 200 < n
  · have d1 : (200 : Int) < (n : Int) := by omega
    go_wp2
    go_ret
    exact ⟨rfl, HB1.out⟩
  have d1 : ¬ (200 : Int) < (n : Int) := by omega
  have hxl := HL.out.len
  have hul := HU.out.len
  go_wp2_with fail
  refine (new_any w1).mono ?_
  rintro e w2 ⟨rfl, hst, hb2, hlt2⟩
  have HB2 := hide (HB1.out.trans (hb2.mono HB1.out.size))
  have HL1 := hide (HL.out.below HB1.out)
  have HST := hide hst
  have HB12 := hide hb2
  obtain ⟨p, hp⟩ : ∃ p, p = w1.heap.size := ⟨_, rfl⟩
  have HP := hide hp
  rw [← hp] at HST hlt2 ⊢
  clear hst hb2 hp
  go_wp2_with fail
  refine (known_any w2).mono ?_
  rintro e w3 ⟨rfl, hb3⟩
  have HB3 := hide (HB2.out.trans (hb3.mono HB2.out.size))
  have HB23 := hide hb3
  clear hb3
  go_wp2_with fail
  refine (rising_any (HU.out.below HB3.out) (by omega) SU.out.2).mono ?_
  rintro e w4 ⟨ra, rn, rc, rs, rfl, hprs, hers, hrn, hb4, hrow, heach⟩
  have HB4 := hide (HB3.out.trans (hb4.mono HB3.out.size))
  have HB24 := hide (HB23.out.trans (hb4.mono HB23.out.size))
  have hrn2 : rn ≤ 200 := by omega
  have HRS : Hid (∀ x ∈ rs, Esm x.e) := hide fun x hx => by
    have h1 : x.e ∈ ers rs := List.mem_map.2 ⟨x, hx, rfl⟩
    rw [hers] at h1
    obtain ⟨_, u, hu, he⟩ := risE_mem h1
    obtain ⟨z, hz, rfl⟩ := List.mem_map.1 hu
    have := SU.out.2 z hz
    rw [he]; exact this
  have HPr : Hid (PrU p w4 ra rn rc rs) := hide ⟨hprs, hrow.imp id fun ⟨b9, o9, cs, e9, h9⟩ => ⟨b9, o9, e9, .inr ⟨cs, h9⟩⟩, fun y hy => (heach y hy).elim fun C hC => hC.u⟩
  have hru : Ris (ers rs) := by rw [hers]; exact risE_ris _
  clear hb4 hprs hers hrn hrow heach
  obtain ⟨w5, hw5⟩ : ∃ w5, w5 = w4.alloc (.cells #[.slice none 0 0] 32) := ⟨_, rfl⟩
  have hb5 : Below w4.heap.size w4 w5 := by rw [hw5]; exact below_alloc _ _
  have hr5 : w5.heap[w4.heap.size]? = some (.cells #[.slice none 0 0] 32 (0, 0)) := by rw [hw5]; exact heap_alloc_new w4 _
  have hs5 : w5.heap.size = w4.heap.size + 1 := by rw [hw5]; simp
  obtain ⟨w6, hw6⟩ : ∃ w6, w6 = w5.alloc (.cells #[.slice none 0 0, .slice none 0 0, .slice none 0 0, .slice none 0 0, .slice none 0 0, .slice none 0 0, .slice none 0 0, .slice none 0 0, .slice none 0 0, .slice none 0 0, .slice none 0 0, .slice none 0 0, .slice none 0 0, .slice none 0 0, .slice none 0 0, .slice none 0 0, .slice none 0 0, .slice none 0 0, .slice none 0 0, .slice none 0 0, .slice none 0 0, .slice none 0 0, .slice none 0 0] 58) := ⟨_, rfl⟩
  have hb6 : Below w5.heap.size w5 w6 := by rw [hw6]; exact below_alloc _ _
  have hk6 : Bo.Bk w6 w5.heap.size Bo.nilf := by rw [hw6]; exact Bo.book_new w5
  have hb46 : Below w4.heap.size w4 w6 := hb5.trans (hb6.mono hb5.size)
  have hs2 := HB24.out.size
  have HD6 : Hid (Dn p 0 (fun _ => False) w6 p [] [] w4.heap.size w5.heap.size) := hide (dn_new HST.out (HB24.out.trans (hb46.mono hs2)) ((hb6.block _ (by omega)).trans hr5) hk6 hs2 (by omega))
  have HPr6 := hide (HPr.out.below hb46)
  have hpw : p < w2.heap.size := hlt2
  have HW6 : Hid (Below w1.heap.size w1 w6) := hide (HB12.out.trans ((HB24.out.trans (hb46.mono hs2)).mono HB12.out.size))
  rw [hs5] at HD6
  clear hk6 hb5 hb6 hb46 hr5 HST HB24 HB23 HB12 HPr
  go_wp2_with fail
  rw [← hw5]
  have e6 : w4.heap.size + 1 = w5.heap.size := hs5.symm
  try rw [e6]
  rw [← hw6]
  clear hw5 hw6 e6
  have hWp : w1.heap.size ≤ p := Nat.le_of_eq HP.out.symm
  have hp6 : p ≤ w6.heap.size := HD6.out.base
  go_loopw [9] (fun vi wr => ∃ (k : Nat) (L : List Ee), k ≤ m ∧ vi = .int .i64 (k : Int) ∧ Dn p (2 * k) (fun _ => False) wr p L L w4.heap.size (w4.heap.size + 1) ∧ Kx p w6 wr) (fun vi _ => m - (intOf vi).toNat)
  case atStart => exact ⟨0, [], Nat.zero_le _, rfl, HD6.out, Kx.refl _ _⟩
  case round =>
    obtain ⟨k, L, hk, rfl, hd, hx⟩ := hrel
    have HDr := hide hd
    have HXr := hide hx
    have HWr : Hid (Below w1.heap.size w1 wr) := hide (HW6.out.trans ((hx.below hp6).mono hWp))
    have HPk := hide (HPr6.out.kx hx)
    clear hd hx
    by_cases hlt : k < m
    · obtain ⟨x, b0, off, hx9, rfl, hbs, hat, hok⟩ := (HL1.out.below HWr.out).at hlt
      have hok1 := HL1.out.each x (List.mem_of_getElem? hx9)
      have hdb := hsm x (List.mem_of_getElem? hx9)
      have f1 : (k : Int) < (m : Int) := by omega
      have f2 : (0 : Int) ≤ (k : Int) := by omega
      obtain ⟨c0, c1, c2, c3, c4⟩ := hat
      have HDo := hide (does_any HDr.out (by omega) hWp HWr.out ra rn rc rs HPk.out hru (by omega) HRS.out x.k hok1.k x.da x.ka x.db.length x.dc x.kb.length x.kc x.db x.kb hok1.data hok1.keep (by omega) (by omega) x.inn x.of hok1.of)
      go_wp2_with fail
      (with_reducible refine HDo.out.mono ?_)
      rintro e w8 ⟨rfl, L', hd', hx'⟩
      have HD8 := hide hd'
      have HX8 := hide (HXr.out.trans hx')
      clear hd' hx'
      go_wp2
      go_roundw
      case rel =>
        rw [hs5]
        exact ⟨_, _, _, _, _, _, _, _, _, _, _, _, _, _, _, _, _, _, ⟨k + 1, L', by omega, by go_num, HD8.out, HX8.out⟩, rfl⟩
      case measure => simp [intOf]; omega
    · obtain rfl : k = m := by omega
      have f1 : ¬ (k : Int) < (k : Int) := by omega
      have hN : 2 * k ≤ 900 := by omega
      have hDl := HDr.out.len
      have hfl := lf L
      have hL6 := hDl.1
      go_wp2_with fail
      refine (HDr.out.changes_any hN).mono ?_
      rintro e w8 ⟨ys, rfl, hys, hcl, hb8⟩
      have HCl := hide hcl
      have HB8 := hide hb8
      have hyl : ys.length = (L.foldl put []).length := by have := congrArg List.length hys; rwa [ers_len] at this
      have HYs : Hid (∀ y ∈ ys, Esm y.e) := hide fun y hy => HDr.out.fold.2.1 y.e (by rw [← hys]; exact List.mem_map.2 ⟨y, hy, rfl⟩)
      have HEq := hide hys
      clear hys hcl hb8 hDl
      go_wp2_with fail
      refine (HDr.out.bchanges_any HB8.out hN _ _ _ ys hyl (by omega) HCl.out HYs.out (2 * k + 300) (by omega) (by omega)).mono ?_
      rintro e w9 ⟨rfl, hd9, hk9⟩
      have HD9 := hide hd9
      have HK9 := hide hk9
      have HC9 := hide (HCl.out.ky hk9)
      clear hd9 hk9 HCl
      go_wp2_with fail
      refine (HD9.out.rchanges_any (by omega)).mono ?_
      rintro e w10 ⟨rb, rd, zs, rfl, hens, hzs, hb10⟩
      have HC10 := hide (HC9.out.below hb10)
      have HE10 := hide hens
      have HB10 := hide hb10
      have HZ := hide hzs
      clear hens hzs hb10 HC9
      go_wp2_with fail
      refine (samec_yes _ _ _ _ _ ys zs _ (cl_is HC10.out HEq.out) HE10.out (HEq.out.trans HZ.out.symm) (by omega)).mono ?_
      rintro e w11 ⟨rfl, hb11⟩
      have HB11 := hide hb11
      have HD11 := hide (HD9.out.below (HB10.out.trans (hb11.mono HB10.out.size)))
      clear hb11
      go_wp2_with fail
      refine (HD11.out.own_any (by omega)).mono ?_
      rintro e w12 ⟨rfl, hb12⟩
      have HB12 := hide hb12
      clear hb12
      go_wp2
      go_ret
      have k1 := HWr.out
      have k2 := k1.trans (HB8.out.mono k1.size)
      have hp8 : p ≤ w8.heap.size := by have := HXr.out.size; have := HB8.out.size; omega
      have k3 := k2.trans ((HK9.out.x.below hp8).mono hWp)
      have k4 := k3.trans (HB10.out.mono k3.size)
      have k5 := k4.trans (HB11.out.mono k4.size)
      have k6 := k5.trans (HB12.out.mono hWp)
      exact ⟨rfl, HB1.out.trans (k6.mono HB1.out.size)⟩
end Go.Proofs.Ytgohhlngnnmknaa
