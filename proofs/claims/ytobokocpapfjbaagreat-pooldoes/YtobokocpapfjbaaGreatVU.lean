/- Acts that came in: what their reading says of memory. -/
import Derived.Test.YtobokocpapfjbaaGreatDV
import Derived.Deep.Matrix
import Derived.Deep.Slices
import Derived.SizedLaws
namespace Go.Proofs.YtobokocpapfjbaaGreat
open Go.ChangeShapes Go.WideShapes Go.ChangeAt Go.RowKit Go.Deep
set_option linter.unusedVariables false

/-- an act: its kind, its page's number, what it is of, a number; its bytes and its bools, and where they lie. -/
structure Ac where
  k : Nat
  nm : Nat
  of : Nat
  n : Int
  da : Option Addr
  dc : Nat
  db : List Int
  ka : Option Addr
  kc : Nat
  kb : List Bool
deriving Inhabited
structure Ac.Ok (w : World) (x : Ac) : Prop where
  data : Inn w x.da x.db.length x.dc x.db
  keep : BRow w x.ka x.kb
  bare : x.ka = none → x.kb.length = 0 ∧ x.kc = 0
  k : x.k < 256
  nm : x.nm < 4294967296
  of : x.of < 256
  n : -9223372036854775808 ≤ x.n ∧ x.n ≤ 9223372036854775807
/-- the cells of an act, from a place on. -/
structure Ac.At (w : World) (b o : Nat) (x : Ac) : Prop where
  c0 : w.cell? ⟨b, o, none⟩ = some (.int .u8 (x.k : Int))
  c1 : w.cell? ⟨b, o + 1, none⟩ = some (.int .u32 (x.nm : Int))
  c2 : w.cell? ⟨b, o + 2, none⟩ = some (.int .u8 (x.of : Int))
  c3 : w.cell? ⟨b, o + 3, none⟩ = some (.int .i64 x.n)
  c4 : w.cell? ⟨b, o + 4, none⟩ = some (.slice x.da x.db.length x.dc)
  c5 : w.cell? ⟨b, o + 5, none⟩ = some (.slice x.ka x.kb.length x.kc)
/-- acts that lie in a row. -/
structure Acs (w : World) (a : Option Addr) (n c : Nat) (xs : List Ac) : Prop where
  len : xs.length = n
  row : xs = [] ∨ ∃ b off, a = some ⟨b, off, none⟩ ∧ b < w.heap.size ∧ ∀ (i : Nat) (x : Ac), xs[i]? = some x → x.At w b (off + i * 6)
  each : ∀ x ∈ xs, x.Ok w
def Sza (xs : List Ac) : Prop := xs.length ≤ 140737488355328 ∧ ∀ x ∈ xs, x.db.length ≤ 140737488355328 ∧ x.kb.length ≤ 140737488355328
theorem brow_below {w w' : World} {a : Option Addr} {bs : List Bool} (h : BRow w a bs) (hb : Below w.heap.size w w') : BRow w' a bs := h.below hb (fun h0 => h.lt h0)
theorem Acs.below {w w' : World} {a : Option Addr} {n c : Nat} {xs : List Ac} (h : Acs w a n c xs) (hb : Below w.heap.size w w') : Acs w' a n c xs := by
  refine ⟨h.len, ?_, fun x hx => ⟨(h.each x hx).data.below hb, brow_below (h.each x hx).keep hb, (h.each x hx).bare, (h.each x hx).k, (h.each x hx).nm, (h.each x hx).of, (h.each x hx).n⟩⟩
  rcases h.row with h0 | ⟨b, off, e, hlt, hc⟩
  · exact .inl h0
  · exact .inr ⟨b, off, e, Nat.lt_of_lt_of_le hlt hb.size, fun i x hx => ⟨(hb.cell (p := ⟨b, _, none⟩) hlt).trans (hc i x hx).c0, (hb.cell (p := ⟨b, _, none⟩) hlt).trans (hc i x hx).c1, (hb.cell (p := ⟨b, _, none⟩) hlt).trans (hc i x hx).c2, (hb.cell (p := ⟨b, _, none⟩) hlt).trans (hc i x hx).c3, (hb.cell (p := ⟨b, _, none⟩) hlt).trans (hc i x hx).c4, (hb.cell (p := ⟨b, _, none⟩) hlt).trans (hc i x hx).c5⟩⟩
theorem Acs.at {w : World} {a : Option Addr} {n c : Nat} {xs : List Ac} (h : Acs w a n c xs) {k : Nat} (hk : k < n) : ∃ x b off, xs[k]? = some x ∧ a = some ⟨b, off, none⟩ ∧ b < w.heap.size ∧ x.At w b (off + k * 6) ∧ x.Ok w := by
  have hk' : k < xs.length := by rw [h.len]; exact hk
  have hx : xs[k]? = some xs[k] := List.getElem?_eq_getElem hk'
  rcases h.row with h0 | ⟨b, off, e, hlt, hc⟩
  · rw [h0] at hk'; simp at hk'
  · exact ⟨xs[k], b, off, hx, e, hlt, hc k _ hx, h.each _ (List.mem_of_getElem? hx)⟩

theorem cellsA : Tryz.prog.cellsOf 70 = 6 := by kernel_rfl
theorem cells5 : Tryz.prog.cellsOf 5 = 1 := by kernel_rfl
theorem cells3 : Tryz.prog.cellsOf 3 = 1 := by kernel_rfl
theorem cellsB : Tryz.prog.cellsOf 22 = 1 := by kernel_rfl
theorem cellsU : Tryz.prog.cellsOf 67 = 1 := by kernel_rfl
theorem cellsK : Tryz.prog.cellsOf 68 = 1 := by kernel_rfl
theorem bytesA : Tryz.prog.bytesOf 70 = 72 := by kernel_rfl
theorem bytes5 : Tryz.prog.bytesOf 5 = 1 := by kernel_rfl
theorem bytes4 : Tryz.prog.bytesOf 4 = 1 := by kernel_rfl
variable {H : Type} {enc : TypeId × Value → H} {W : World}
theorem six_cells {P : Program} {t : TypeId} {f0 f1 f2 f3 f4 f5 : Field} {ad : Addr} {i n : Nat} {y : DataW H × List MemPlace} {cs' : List Value} (he : P.underlying t = some (.struct #[f0, f1, f2, f3, f4, f5]))
    (o0 : f0.offset = 0) (o1 : f1.offset = 1) (o2 : f2.offset = 2) (o3 : f3.offset = 3) (o4 : f4.offset = 4) (o5 : f5.offset = 5) (c0 : P.cellsOf f0.type = 1) (c1 : P.cellsOf f1.type = 1) (c2 : P.cellsOf f2.type = 1) (c3 : P.cellsOf f3.type = 1) (c4 : P.cellsOf f4.type = 1) (c5 : P.cellsOf f5.type = 1)
    (h1 : W.cells? 0 (ad.add (i * 6)) 6 = some cs') (h2 : DataW.trod enc P W 0 (fun _ => true) true n t cs' = some y) :
    ∃ (v0 v1 v2 v3 v4 v5 : Value) (y0 y1 y2 y3 y4 y5 : DataW H × List MemPlace) (k : Nat), y.1 = .agg [y0.1, y1.1, y2.1, y3.1, y4.1, y5.1] ∧ W.cell? (ad.add (i * 6)) = some v0 ∧ W.cell? (ad.add (i * 6 + 1)) = some v1 ∧ W.cell? (ad.add (i * 6 + 2)) = some v2 ∧ W.cell? (ad.add (i * 6 + 3)) = some v3 ∧ W.cell? (ad.add (i * 6 + 4)) = some v4 ∧ W.cell? (ad.add (i * 6 + 5)) = some v5 ∧
      DataW.trod enc P W 0 (fun _ => true) true k f0.type [v0] = some y0 ∧ DataW.trod enc P W 0 (fun _ => true) true k f1.type [v1] = some y1 ∧ DataW.trod enc P W 0 (fun _ => true) true k f2.type [v2] = some y2 ∧ DataW.trod enc P W 0 (fun _ => true) true k f3.type [v3] = some y3 ∧ DataW.trod enc P W 0 (fun _ => true) true k f4.type [v4] = some y4 ∧ DataW.trod enc P W 0 (fun _ => true) true k f5.type [v5] = some y5 := by
  obtain ⟨_, hlen, hcell⟩ := World.cells?_some h1
  obtain ⟨xs, k, hk, hxy, _, hxl, hf⟩ := DataW.trod_struct he h2
  match xs, hxl, cs', hlen with
  | [y0, y1, y2, y3, y4, y5], _, [v0, v1, v2, v3, v4, v5], _ =>
    have g0 := hf 0 f0 rfl
    have g1 := hf 1 f1 rfl
    have g2 := hf 2 f2 rfl
    have g3 := hf 3 f3 rfl
    have g4 := hf 4 f4 rfl
    have g5 := hf 5 f5 rfl
    simp [o0, o1, o2, o3, o4, o5, c0, c1, c2, c3, c4, c5] at g0 g1 g2 g3 g4 g5
    have e0 := hcell 0 (by omega)
    have e1 := hcell 1 (by omega)
    have e2 := hcell 2 (by omega)
    have e3 := hcell 3 (by omega)
    have e4 := hcell 4 (by omega)
    have e5 := hcell 5 (by omega)
    rw [add_add] at e0 e1 e2 e3 e4 e5
    subst hxy
    exact ⟨v0, v1, v2, v3, v4, v5, y0, y1, y2, y3, y4, y5, k, by simp, by simpa using e0, by simpa using e1, by simpa using e2, by simpa using e3, by simpa using e4, by simpa using e5, g0, g1, g2, g3, g4, g5⟩
theorem weights_mem {Q : Program} {e : TypeId} {d : DataW H} {l : List (DataW H)} (h : d ∈ l) {n : Nat} (hn : n ∈ d.weights Q e) : n ∈ DataW.weightsAll Q e l := by
  induction l with
  | nil => simp at h
  | cons x t ih =>
    rw [DataW.weightsAll]
    rcases List.mem_cons.1 h with rfl | h
    · exact List.mem_append.2 (.inl hn)
    · exact List.mem_append.2 (.inr (ih h))
theorem inn_nil (w : World) : Inn w none 0 0 [] := ⟨rfl, Nat.le_refl _, by omega, fun _ => ⟨rfl, rfl⟩, .inl rfl, by intro c hc; simp at hc⟩
theorem one_bytes {v : Value} {n : Nat} {y : DataW H × List MemPlace} (g : DataW.trod enc Tryz.prog W 0 (fun _ => true) true n 22 [v] = some y) :
    ∃ (a : Option Addr) (c : Nat) (zs : List Int), v = .slice a zs.length c ∧ Inn W a zs.length c zs ∧ (zs.length = 0 ∨ ∃ e s, y.1 = .slice e s ∧ zs.length ≤ e.length) := by
  rcases open_ints Tryz.underlying22 Tryz.underlying5 cells5 g with ⟨hcs, _⟩ | ⟨x, l, c, zs, hcs, _, hl, hm, hz, hx, hcell, hwz⟩
  · cases hcs
    exact ⟨none, 0, [], rfl, inn_nil W, .inl rfl⟩
  · cases hcs
    have hin := isrow_inn (.inr ⟨x, rfl, hl, hm, by simpa using hz, hcell, hwz⟩ : IsRow .u8 W (some x) l c zs)
    have hlen := hin.len
    refine ⟨some x, c, zs.take l, by rw [hlen], by rw [hlen]; exact hin, .inr ⟨_, _, by rw [hx], ?_⟩⟩
    rw [hlen]
    simp only [lits, List.length_map]
    omega
theorem one_keep {v : Value} {n : Nat} {y : DataW H × List MemPlace} (g : DataW.trod enc Tryz.prog W 0 (fun _ => true) true n 68 [v] = some y) :
    ∃ (a : Option Addr) (l c : Nat), v = .slice a l c ∧ (a = none → l = 0 ∧ c = 0) ∧ (l = 0 ∨ ∃ e s, y.1 = .slice e s ∧ l ≤ e.length) := by
  rcases open_slice Tryz.underlying68 g with ⟨hcs, _⟩ | ⟨ad, l, c, m, n, D, Pl, hcs, hb, hl, hm, hmm, rfl, hx⟩
  · cases hcs
    exact ⟨_, _, _, rfl, fun _ => ⟨rfl, rfl⟩, .inl rfl⟩
  · cases hcs
    exact ⟨_, _, _, rfl, fun h => (by cases h), .inr ⟨_, _, rfl, by simp⟩⟩
theorem one_act {ad : Addr} {i n : Nat} {y : DataW H × List MemPlace} {cs' : List Value} (h1 : W.cells? 0 (ad.add (i * 6)) 6 = some cs') (h2 : DataW.trod enc Tryz.prog W 0 (fun _ => true) true n 70 cs' = some y) :
    ∃ (x : Ac), (W.cell? (ad.add (i * 6)) = some (.int .u8 (x.k : Int)) ∧ W.cell? (ad.add (i * 6 + 1)) = some (.int .u32 (x.nm : Int)) ∧ W.cell? (ad.add (i * 6 + 2)) = some (.int .u8 (x.of : Int)) ∧ W.cell? (ad.add (i * 6 + 3)) = some (.int .i64 x.n) ∧ W.cell? (ad.add (i * 6 + 4)) = some (.slice x.da x.db.length x.dc) ∧ W.cell? (ad.add (i * 6 + 5)) = some (.slice x.ka x.kb.length x.kc)) ∧ x.Ok W ∧
      ∃ d0 d1 d2 d3 d4 d5, y.1 = .agg [d0, d1, d2, d3, d4, d5] ∧ (x.db.length = 0 ∨ ∃ e s, d4 = .slice e s ∧ x.db.length ≤ e.length) ∧ (x.kb.length = 0 ∨ ∃ e s, d5 = .slice e s ∧ x.kb.length ≤ e.length) := by
  obtain ⟨v0, v1, v2, v3, v4, v5, y0, y1, y2, y3, y4, y5, k, hy, e0, e1, e2, e3, e4, e5, g0, g1, g2, g3, g4, g5⟩ := six_cells Tryz.underlying70 rfl rfl rfl rfl rfl rfl cells5 cellsU cells5 cells3 cellsB cellsK h1 h2
  obtain ⟨z0, r0, _, w0⟩ := DataW.trod_int Tryz.underlying5 g0
  obtain ⟨z1, r1, _, w1⟩ := DataW.trod_int Tryz.underlying67 g1
  obtain ⟨z2, r2, _, w2⟩ := DataW.trod_int Tryz.underlying5 g2
  obtain ⟨z3, r3, _, w3⟩ := DataW.trod_int Tryz.underlying3 g3
  cases r0
  cases r1
  cases r2
  cases r3
  have b0 := bounds_u8 w0
  have b1 := bounds_u32 w1
  have b2 := bounds_u8 w2
  have b3 := bounds_i64 w3
  obtain ⟨K, rfl⟩ := Int.eq_ofNat_of_zero_le b0.1
  obtain ⟨N, rfl⟩ := Int.eq_ofNat_of_zero_le b1.1
  obtain ⟨F, rfl⟩ := Int.eq_ofNat_of_zero_le b2.1
  obtain ⟨da, dc, db, rfl, id, sd⟩ := one_bytes g4
  obtain ⟨ka, kc, kb, hv, hkb, -⟩ := read_bools k v5 y5 g5
  obtain ⟨ka', kn', kc', hv', hbare, sk⟩ := one_keep g5
  rw [hv] at hv'
  cases hv'
  subst hv
  exact ⟨⟨K, N, F, z3, da, dc, db, ka, kc, kb⟩, ⟨e0, e1, e2, e3, e4, e5⟩, ⟨id, hkb, hbare, by simp only []; omega, by simp only []; omega, by simp only []; omega, b3⟩, _, _, _, _, _, _, hy, sd, sk⟩
set_option maxRecDepth 1000000 in
theorem slice_wt (e s : List (DataW H)) : (e.length + s.length) * 1 ∈ (DataW.slice e s : DataW H).weights Tryz.prog 22 := by
  rw [DataW.weights, Tryz.underlying22]
  simp only []
  rw [bytes5]
  exact List.mem_cons_self ..
set_option maxRecDepth 1000000 in
theorem keep_wt (e s : List (DataW H)) : (e.length + s.length) * 1 ∈ (DataW.slice e s : DataW H).weights Tryz.prog 68 := by
  rw [DataW.weights, Tryz.underlying68]
  simp only []
  rw [bytes4]
  exact List.mem_cons_self ..
set_option maxRecDepth 1000000 in
theorem acts_sized {elems spare : List (DataW H)} (h : ((DataW.slice elems spare : DataW H).weights Tryz.prog 23).all (· ≤ reachBytes) = true) :
    elems.length ≤ reachBytes ∧ ∀ d0 d1 d2 d3 d4 d5, DataW.agg [d0, d1, d2, d3, d4, d5] ∈ elems → (∀ e s, d4 = .slice e s → e.length ≤ reachBytes) ∧ (∀ e s, d5 = .slice e s → e.length ≤ reachBytes) := by
  rw [DataW.weights, Tryz.underlying23] at h
  simp only [] at h
  rw [bytesA] at h
  have hall := List.all_eq_true.1 h
  constructor
  · have h1 := hall ((elems.length + spare.length) * 72) (List.mem_cons_self ..)
    have h2 := of_decide_eq_true h1
    omega
  · intro d0 d1 d2 d3 d4 d5 hm
    constructor
    · intro e s hd
      subst hd
      have hw : (e.length + s.length) * 1 ∈ (DataW.agg [d0, d1, d2, d3, .slice e s, d5] : DataW H).weights Tryz.prog 70 := by
        rw [DataW.weights, Tryz.underlying70]
        simp only [List.map_cons, List.map_nil, DataW.weightsEach]
        exact List.mem_append.2 (.inr (List.mem_append.2 (.inr (List.mem_append.2 (.inr (List.mem_append.2 (.inr (List.mem_append.2 (.inl (slice_wt e s))))))))))
      have h1 := hall _ (List.mem_cons_of_mem _ (List.mem_append.2 (.inl (weights_mem hm hw))))
      have h2 := of_decide_eq_true h1
      omega
    · intro e s hd
      subst hd
      have hw : (e.length + s.length) * 1 ∈ (DataW.agg [d0, d1, d2, d3, d4, .slice e s] : DataW H).weights Tryz.prog 70 := by
        rw [DataW.weights, Tryz.underlying70]
        simp only [List.map_cons, List.map_nil, DataW.weightsEach]
        exact List.mem_append.2 (.inr (List.mem_append.2 (.inr (List.mem_append.2 (.inr (List.mem_append.2 (.inr (List.mem_append.2 (.inr (List.mem_append.2 (.inl (keep_wt e s))))))))))))
      have h1 := hall _ (List.mem_cons_of_mem _ (List.mem_append.2 (.inl (weights_mem hm hw))))
      have h2 := of_decide_eq_true h1
      omega
theorem acts_read {a : Option Addr} {len cap fuel : Nat} {x : DataW H × List MemPlace} (h : DataW.trod enc Tryz.prog W 0 (fun _ => true) true fuel 23 [.slice a len cap] = some x) (hsz : ((x.1).weights Tryz.prog 23).all (· ≤ reachBytes) = true) :
    ∃ xs, Acs W a len cap xs ∧ Sza xs := by
  rcases open_slice Tryz.underlying23 h with ⟨hcs, _⟩ | ⟨ad, l, c, m, n, D, Pl, hcs, hb, hl, hm, hmm, rfl, hx⟩
  · cases hcs
    exact ⟨[], ⟨rfl, .inl rfl, by simp⟩, by simp, by simp⟩
  · cases hcs
    have hlm : len ≤ m := by rw [hmm]; split <;> omega
    have hin := acts_sized hsz
    rw [cellsA] at hx
    obtain ⟨O, hO⟩ := choose_lt (fun i (hi : i < len) => by
      obtain ⟨cs', h1, h2⟩ := hx i (by omega)
      exact one_act h1 h2)
    have hl2 : len ≤ 140737488355328 := by
      have := hin.1
      rw [List.length_map, List.length_range] at this
      unfold reachBytes at this
      omega
    have hlen : ((List.range len).map O).length = len := by simp
    have hget : ∀ k x, ((List.range len).map O)[k]? = some x → k < len ∧ x = O k := by
      intro k x hk
      obtain ⟨h1, h2⟩ := List.getElem?_eq_some_iff.1 hk
      simp at h1 h2
      exact ⟨h1, h2.symm⟩
    refine ⟨(List.range len).map O, ⟨hlen, ?_, ?_⟩, by rw [hlen]; exact hl2, ?_⟩
    · by_cases h0 : len = 0
      · subst h0; exact .inl rfl
      · obtain ⟨b, off, spot⟩ := ad
        have hc := (hO 0 (by omega)).1.1
        have hspot : spot = none := by simpa [Addr.add] using World.cell?_spot hc
        subst hspot
        refine .inr ⟨b, off, rfl, ?_, ?_⟩
        · have := World.block_lt_of_cell? W _ hc
          rw [Addr.add_lit] at this
          exact this
        · intro k x hk
          obtain ⟨hkl, rfl⟩ := hget k x hk
          obtain ⟨q0, q1, q2, q3, q4, q5⟩ := (hO k hkl).1
          rw [Addr.add_lit] at q0 q1 q2 q3 q4 q5
          exact ⟨q0, q1, q2, q3, q4, q5⟩
    · intro x hx2
      obtain ⟨k, hk, rfl⟩ := List.mem_map.1 hx2
      exact (hO k (List.mem_range.1 hk)).2.1
    · intro x hx2
      obtain ⟨k, hk, rfl⟩ := List.mem_map.1 hx2
      obtain ⟨_, _, d0, d1, d2, d3, d4, d5, hy, hk0, hv0⟩ := hO k (List.mem_range.1 hk)
      have hmm2 := hin.2 d0 d1 d2 d3 d4 d5 (List.mem_map.2 ⟨k, List.mem_range.2 (by have := List.mem_range.1 hk; omega), hy⟩)
      unfold reachBytes at hmm2
      refine ⟨?_, ?_⟩
      · rcases hk0 with h | ⟨e, s, hd, hle⟩
        · omega
        · have := hmm2.1 e s hd; omega
      · rcases hv0 with h | ⟨e, s, hd, hle⟩
        · omega
        · have := hmm2.2 e s hd; omega
set_option maxRecDepth 1000000 in
theorem acts_open {base0 : Nat} {r : Reach} {v : Value} {d : DataW H} {p : List MemPlace} (hval : Value.okWide Tryz.prog W r base0 23 v) (h : DataW.Trod enc Tryz.prog W 0 (fun _ => true) true 23 v d p) (hsz : (d.weights Tryz.prog 23).all (· ≤ reachBytes) = true) :
    ∃ (a : Option Addr) (n c : Nat) (xs : List Ac), v = .slice a n c ∧ Acs W a n c xs ∧ Sza xs := by
  obtain ⟨a, len, cap, rfl⟩ := okWide_slice Tryz.underlying23 hval
  obtain ⟨fuel, hf⟩ := h
  obtain ⟨xs, h1, h2⟩ := acts_read (fuel := fuel) (x := (d, p)) (by simpa [Value.cells] using hf) hsz
  exact ⟨a, len, cap, xs, rfl, h1, h2⟩
end Go.Proofs.YtobokocpapfjbaaGreat
/- Are the acts more than is looked at? -/
namespace Go.Proofs.YtobokocpapfjbaaGreat
open Go.RowKit
set_option linter.unusedVariables false

def Mu (xs : List Ac) (k r : Nat) : Prop := ∀ i x, i < k → xs[i]? = some x → x.db.length ≤ r ∧ x.kb.length ≤ r
theorem Mu.zero (xs : List Ac) (n : Nat) : Mu xs 0 n := fun i x hi => by omega
theorem Mu.next {xs : List Ac} {k r d : Nat} {x : Ac} (h : Mu xs k r) (hx : xs[k]? = some x) (hd : x.db.length + x.kb.length ≤ d) : Mu xs (k + 1) (r + d) := by
  intro i y hi hy
  by_cases e : i = k
  · subst e
    rw [hx] at hy
    cases hy
    omega
  · have := h i y (by omega) hy
    omega
def MuchOut (n : Nat) (xs : List Ac) (e : Ending) : Prop := e = .returned (.bool true) ∨ (e = .returned (.bool false) ∧ n ≤ 200 ∧ ∀ x ∈ xs, x.db.length ≤ 200000 ∧ x.kb.length ≤ 200000)
theorem below_drewN {w w' : World} (h : Below w.heap.size w w') (k : Nat) : Below w.heap.size w (w'.drewN k) := ⟨h.os, h.tape, h.output, h.size, h.block⟩
set_option maxHeartbeats 3200000 in
set_option maxRecDepth 1000000 in
theorem much_any (a : Option Addr) (n c : Nat) (xs : List Ac) (w : World) (h : Acs w a n c xs) (hs : Sza xs) :
    Calls Tryz.prog 5 #[.slice a n c] w fun e w' => MuchOut n xs e ∧ Below w.heap.size w w' := by
  have HE := hide h
  have HS := hide hs
  have hnn : n ≤ 140737488355328 := by have := hs.1; rwa [h.len] at this
  clear h hs
  go_enter Tryz.func5, Tryz.ntmps5
  go_wp2
  go_loopw [3, 4] (fun s i wr => ∃ (k r : Nat), k ≤ n ∧ i = .int .i64 (k : Int) ∧ s = .int .i64 (r : Int) ∧ r ≤ 422212465266000 ∧ Hid (Mu xs k r) ∧ Below w.heap.size w wr) (fun _ i _ => n - (intOf i).toNat)
  case atStart => exact ⟨0, n, Nat.zero_le _, rfl, rfl, by omega, hide (Mu.zero xs n), Below.refl _ _⟩
  case round =>
    obtain ⟨k, r, hk, rfl, rfl, hr, HMu, hb⟩ := hrel
    have HB := hide hb
    clear hb
    by_cases hlt : k < n
    · have d1 : (k : Int) < (n : Int) := by omega
      by_cases hr2 : r ≤ 200000
      · have d2 : (r : Int) ≤ 200000 := by omega
        obtain ⟨x, b, off, hx, rfl, hbl, hat, hok⟩ := (HE.out.below HB.out).at hlt
        have HMn := hide (HMu.out.next hx (Nat.le_refl _))
        have hsz := HS.out.2 x (List.mem_of_getElem? hx)
        have l1 : x.db.length ≤ 140737488355328 := hsz.1
        have l2 : x.kb.length ≤ 140737488355328 := hsz.2
        have c4 := hat.c4
        have c5 := hat.c5
        clear hx hat hok hsz
        generalize x.db.length = ld at *
        generalize x.kb.length = lk at *
        go_wp2
        go_quiet (fail)
        go_wp2
        go_roundw
        case rel => exact ⟨k + 1, r + (ld + lk), by omega, by go_num, by go_num, by omega, HMn, below_drewN HB.out _⟩
        case measure => simp [intOf]; omega
      · have d2 : ¬ (r : Int) ≤ 200000 := by omega
        have d3 : (200000 : Int) < (r : Int) := by omega
        go_wp2
        go_ret
        exact ⟨.inl rfl, HB.out⟩
    · have d1 : ¬ (k : Int) < (n : Int) := by omega
      by_cases hr2 : r ≤ 200000
      · have d2 : ¬ (200000 : Int) < (r : Int) := by omega
        by_cases hn2 : n ≤ 200
        · have d3 : ¬ (200 : Int) < (n : Int) := by omega
          go_wp2
          go_ret
          refine ⟨.inr ⟨rfl, hn2, fun x hx => ?_⟩, HB.out⟩
          obtain ⟨i, hi⟩ := List.getElem?_of_mem hx
          have hil := (List.getElem?_eq_some_iff.1 hi).1
          have hle := HE.out.len
          have := HMu.out i x (by omega) hi
          omega
        · have d3 : (200 : Int) < (n : Int) := by omega
          go_wp2
          go_ret
          exact ⟨.inl rfl, HB.out⟩
      · have d2 : (200000 : Int) < (r : Int) := by omega
        go_wp2
        go_ret
        exact ⟨.inl rfl, HB.out⟩
end Go.Proofs.YtobokocpapfjbaaGreat
