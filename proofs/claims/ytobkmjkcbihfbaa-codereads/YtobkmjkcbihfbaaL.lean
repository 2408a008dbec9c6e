/- A list of calls that came in: what its reading says of memory. -/
import Derived.Test.YtobkmjkcbihfbaaJ
import Derived.Deep.Matrix
import Derived.Deep.Slices
import Derived.SizedLaws
namespace Go.Proofs.Ytobkmjkcbihfbaa
open Go.ChangeShapes Go.WideShapes Go.ChangeAt Go.RowKit Go.Deep
set_option linter.unusedVariables false

theorem cells57 : Try.prog.cellsOf 57 = 4 := by kernel_rfl
theorem cells5 : Try.prog.cellsOf 5 = 1 := by kernel_rfl
theorem cells55 : Try.prog.cellsOf 55 = 1 := by kernel_rfl
theorem cells3 : Try.prog.cellsOf 3 = 1 := by kernel_rfl
theorem cells27 : Try.prog.cellsOf 27 = 1 := by kernel_rfl
theorem bytes57 : Try.prog.bytesOf 57 = 48 := by kernel_rfl
theorem bytes5 : Try.prog.bytesOf 5 = 1 := by kernel_rfl
instance : Inhabited Cal := ⟨⟨0, 0, 0, none, 0, 0, []⟩⟩

variable {H : Type} {enc : TypeId × Value → H} {W : World}
theorem four_cells {P : Program} {t : TypeId} {f0 f1 f2 f3 : Field} {ad : Addr} {i n : Nat} {y : DataW H × List MemPlace} {cs' : List Value} (he : P.underlying t = some (.struct #[f0, f1, f2, f3]))
    (o0 : f0.offset = 0) (o1 : f1.offset = 1) (o2 : f2.offset = 2) (o3 : f3.offset = 3) (c0 : P.cellsOf f0.type = 1) (c1 : P.cellsOf f1.type = 1) (c2 : P.cellsOf f2.type = 1) (c3 : P.cellsOf f3.type = 1)
    (h1 : W.cells? 0 (ad.add (i * 4)) 4 = some cs') (h2 : DataW.trod enc P W 0 (fun _ => true) true n t cs' = some y) :
    ∃ (v0 v1 v2 v3 : Value) (y0 y1 y2 y3 : DataW H × List MemPlace) (k : Nat), y.1 = .agg [y0.1, y1.1, y2.1, y3.1] ∧ W.cell? (ad.add (i * 4)) = some v0 ∧ W.cell? (ad.add (i * 4 + 1)) = some v1 ∧ W.cell? (ad.add (i * 4 + 2)) = some v2 ∧ W.cell? (ad.add (i * 4 + 3)) = some v3 ∧
      DataW.trod enc P W 0 (fun _ => true) true k f0.type [v0] = some y0 ∧ DataW.trod enc P W 0 (fun _ => true) true k f1.type [v1] = some y1 ∧ DataW.trod enc P W 0 (fun _ => true) true k f2.type [v2] = some y2 ∧ DataW.trod enc P W 0 (fun _ => true) true k f3.type [v3] = some y3 := by
  obtain ⟨_, hlen, hcell⟩ := World.cells?_some h1
  obtain ⟨xs, k, hk, hxy, _, hxl, hf⟩ := DataW.trod_struct he h2
  match xs, hxl, cs', hlen with
  | [y0, y1, y2, y3], _, [v0, v1, v2, v3], _ =>
    have g0 := hf 0 f0 rfl
    have g1 := hf 1 f1 rfl
    have g2 := hf 2 f2 rfl
    have g3 := hf 3 f3 rfl
    simp [o0, o1, o2, o3, c0, c1, c2, c3] at g0 g1 g2 g3
    have e0 := hcell 0 (by omega)
    have e1 := hcell 1 (by omega)
    have e2 := hcell 2 (by omega)
    have e3 := hcell 3 (by omega)
    rw [add_add] at e0 e1 e2 e3
    subst hxy
    exact ⟨v0, v1, v2, v3, y0, y1, y2, y3, k, by simp, by simpa using e0, by simpa using e1, by simpa using e2, by simpa using e3, g0, g1, g2, g3⟩

theorem one_call {ad : Addr} {i n : Nat} {y : DataW H × List MemPlace} {cs' : List Value} (h1 : W.cells? 0 (ad.add (i * 4)) 4 = some cs') (h2 : DataW.trod enc Try.prog W 0 (fun _ => true) true n 57 cs' = some y) :
    ∃ (o : Cal), W.cell? (ad.add (i * 4)) = some (.int .u8 (o.k : Int)) ∧ W.cell? (ad.add (i * 4 + 1)) = some (.int .u64 (o.v : Int)) ∧ W.cell? (ad.add (i * 4 + 2)) = some (.int .i64 o.n) ∧ W.cell? (ad.add (i * 4 + 3)) = some (.slice o.a o.l o.c) ∧
      Row W o.a o.bs ∧ Byts o.bs ∧ o.bs.length = o.l ∧ (o.a = none → o.l = 0 ∧ o.c = 0) ∧ o.k < 256 ∧ o.v < 18446744073709551616 ∧ (-9223372036854775808 ≤ o.n ∧ o.n ≤ 9223372036854775807) ∧
      (o.l = 0 ∨ ∃ d0 d1 d2 e1 s1, y.1 = .agg [d0, d1, d2, .slice e1 s1] ∧ o.l ≤ e1.length) := by
  obtain ⟨v0, v1, v2, v3, y0, y1, y2, y3, k, hy, e0, e1, e2, e3, g0, g1, g2, g3⟩ := four_cells Try.underlying57 rfl rfl rfl rfl cells5 cells55 cells3 cells27 h1 h2
  obtain ⟨k0, r0, _, w0⟩ := DataW.trod_int Try.underlying5 g0
  obtain ⟨k1, r1, _, w1⟩ := DataW.trod_int Try.underlying55 g1
  obtain ⟨k2, r2, _, w2⟩ := DataW.trod_int Try.underlying3 g2
  cases r0
  cases r1
  cases r2
  have b0 := bounds_u8 w0
  have b1 := bounds_u64 w1
  have b2 := bounds_i64 w2
  obtain ⟨K, rfl⟩ := Int.eq_ofNat_of_zero_le b0.1
  obtain ⟨V, rfl⟩ := Int.eq_ofNat_of_zero_le b1.1
  rcases open_ints Try.underlying27 Try.underlying5 cells5 g3 with ⟨hcs, _⟩ | ⟨x, l, c, zs, hcs, _, hl, hm, hz, hx, hcell, hwz⟩
  · cases hcs
    exact ⟨⟨K, V, k2, none, 0, 0, []⟩, e0, e1, e2, e3, .inl rfl, (fun c hc => by simp at hc), rfl, fun _ => ⟨rfl, rfl⟩, by simp only []; omega, by simp only []; omega, b2, .inl rfl⟩
  · cases hcs
    obtain ⟨hr, hby, hlen, _, _, hbare⟩ := isrow_row (.inr ⟨x, rfl, hl, hm, by simpa using hz, hcell, hwz⟩ : IsRow .u8 W (some x) l c zs)
    refine ⟨⟨K, V, k2, some x, l, c, zs.take l⟩, e0, e1, e2, e3, hr, hby, hlen, hbare, by simp only []; omega, by simp only []; omega, b2, .inr ⟨_, _, _, _, _, by rw [hy, hx], ?_⟩⟩
    simp only [lits, List.length_map]
    omega

theorem weights_mem {Q : Program} {e : TypeId} {d : DataW H} {l : List (DataW H)} (h : d ∈ l) {n : Nat} (hn : n ∈ d.weights Q e) : n ∈ DataW.weightsAll Q e l := by
  induction l with
  | nil => simp at h
  | cons x t ih =>
    rw [DataW.weightsAll]
    rcases List.mem_cons.1 h with rfl | h
    · exact List.mem_append.2 (.inl hn)
    · exact List.mem_append.2 (.inr (ih h))
set_option maxRecDepth 1000000 in
theorem inner_sized {elems spare : List (DataW H)} (h : ((DataW.slice elems spare : DataW H).weights Try.prog 22).all (· ≤ reachBytes) = true) :
    elems.length ≤ reachBytes ∧ ∀ d0 d1 d2 e1 s1, DataW.agg [d0, d1, d2, .slice e1 s1] ∈ elems → e1.length ≤ reachBytes := by
  rw [DataW.weights, Try.underlying22] at h
  simp only [] at h
  rw [bytes57] at h
  have hall := List.all_eq_true.1 h
  constructor
  · have h1 := hall ((elems.length + spare.length) * 48) (List.mem_cons_self ..)
    have h2 := of_decide_eq_true h1
    omega
  · intro d0 d1 d2 e1 s1 hm
    have hw : (e1.length + s1.length) * 1 ∈ (DataW.agg [d0, d1, d2, .slice e1 s1] : DataW H).weights Try.prog 57 := by
      rw [DataW.weights, Try.underlying57]
      simp only [List.map_cons, List.map_nil, DataW.weightsEach]
      have hs : (e1.length + s1.length) * 1 ∈ (DataW.slice e1 s1 : DataW H).weights Try.prog 27 := by
        rw [DataW.weights, Try.underlying27]
        simp only []
        rw [bytes5]
        exact List.mem_cons_self ..
      exact List.mem_append.2 (.inr (List.mem_append.2 (.inr (List.mem_append.2 (.inr (List.mem_append.2 (.inl hs)))))))
    have h1 := hall ((e1.length + s1.length) * 1) (List.mem_cons_of_mem _ (List.mem_append.2 (.inl (weights_mem hm hw))))
    have h2 := of_decide_eq_true h1
    omega

theorem calls_open {a : Option Addr} {len cap fuel : Nat} {x : DataW H × List MemPlace} (h : DataW.trod enc Try.prog W 0 (fun _ => true) true fuel 22 [.slice a len cap] = some x) (hsz : ((x.1).weights Try.prog 22).all (· ≤ reachBytes) = true) :
    len ≤ 140737488355328 ∧ ∃ O, Cals W a len O := by
  rcases open_slice Try.underlying22 h with ⟨hcs, _⟩ | ⟨ad, l, c, m, n, D, Pl, hcs, hb, hl, hm, hmm, rfl, hx⟩
  · cases hcs
    exact ⟨by omega, fun _ => default, ⟨fun h => absurd h (by omega), fun r h => absurd h (by omega), fun r h => absurd h (by omega), fun r h => absurd h (by omega), fun r h => absurd h (by omega), fun r h => absurd h (by omega), fun r h => absurd h (by omega), fun r h => absurd h (by omega), fun r h => absurd h (by omega), fun r h => absurd h (by omega)⟩⟩
  · cases hcs
    have hlm : len ≤ m := by rw [hmm]; split <;> omega
    have hin := inner_sized hsz
    rw [cells57] at hx
    obtain ⟨O, hO⟩ := choose_lt (fun i (hi : i < len) => by
      obtain ⟨cs', h1, h2⟩ := hx i (by omega)
      exact one_call h1 h2)
    have hl2 : len ≤ 140737488355328 := by
      have := hin.1
      rw [List.length_map, List.length_range] at this
      unfold reachBytes at this
      omega
    refine ⟨hl2, O, ⟨fun h0 => ?_, fun r hr => (hO r hr).2.2.2.2.1, fun r hr => (hO r hr).2.2.2.2.2.1, fun r hr => (hO r hr).2.2.2.2.2.2.1, fun r hr => ?_, fun r hr => (hO r hr).2.2.2.2.2.2.2.1, fun r hr => (hO r hr).2.2.2.2.2.2.2.2.1, fun r hr => (hO r hr).2.2.2.2.2.2.2.2.2.1, fun r hr => (hO r hr).2.2.2.2.2.2.2.2.2.2.1, fun r hr ad2 had => ?_⟩⟩
    · obtain ⟨b, off, spot⟩ := ad
      have hc := (hO 0 h0).1
      have hspot : spot = none := by simpa [Addr.add] using World.cell?_spot hc
      subst hspot
      refine ⟨b, off, rfl, ?_, fun r hr => ?_⟩
      · have := World.block_lt_of_cell? W _ hc
        rw [Addr.add_lit] at this
        exact this
      · obtain ⟨q0, q1, q2, q3, _⟩ := hO r hr
        rw [Addr.add_lit] at q0 q1 q2 q3
        exact ⟨q0, q1, q2, q3⟩
    · rcases (hO r hr).2.2.2.2.2.2.2.2.2.2.2 with h | ⟨d0, d1, d2, e1, s1, hy, hle⟩
      · omega
      · have := hin.2 d0 d1 d2 e1 s1 (List.mem_map.2 ⟨r, List.mem_range.2 hr, hy⟩)
        unfold reachBytes at this
        omega
    · rcases (hO r hr).2.2.2.2.1 with h | ⟨b, off, e, hlt, _⟩
      · exact .inr h
      · rw [e] at had
        cases had
        exact .inl hlt
end Go.Proofs.Ytobkmjkcbihfbaa
