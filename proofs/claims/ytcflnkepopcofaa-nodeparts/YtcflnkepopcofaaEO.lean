/- An entry that came in; the boxes of a node and an entry. -/
import Derived.Test.YtcflnkepopcofaaMU
import Derived.Test.YtcflnkepopcofaaFB
import Derived.Test.YtcflnkepopcofaaFR
namespace Go.Proofs.Ytcflnkepopcofaa
open Go.ChangeShapes Go.WideShapes Go.ChangeAt Go.RowKit
set_option linter.unusedVariables false

theorem array4 {α : Type} {a : Array α} (h : a.size = 4) : ∃ x y z u, a = #[x, y, z, u] := by
  obtain ⟨l⟩ := a
  match l, h with
  | [x, y, z, u], _ => exact ⟨x, y, z, u, rfl⟩
set_option maxRecDepth 1000000 in
theorem entry_open {H : Type} {enc : TypeId × Value → H} {W : World} {base0 : Nat} {r : Reach} {v : Value} {d : DataW H} {p : List MemPlace} (hval : Value.okWide Try.prog W r base0 28 v) (h : DataW.Trod enc Try.prog W 0 (fun _ => true) true 28 v d p) (hsz : (d.weights Try.prog 28).all (· ≤ reachBytes) = true) :
    ∃ x : En, v = x.v ∧ x.Ok W ∧ x.e.key.length ≤ 140737488355328 ∧ x.e.val.length ≤ 140737488355328 := by
  obtain ⟨cs, rfl, hs2⟩ := okWide_struct Try.underlying28 hval
  obtain ⟨c0, c1, c2, c3, rfl⟩ := array4 (hs2.trans cellsE)
  obtain ⟨fuel, hf⟩ := h
  obtain ⟨xs, n, -, hxy, -, hlen, hx⟩ := DataW.trod_struct Try.underlying28 hf
  match xs, hlen with
  | [y0, y1, y2, y3], _ =>
    have g0 : DataW.trod enc Try.prog W 0 (fun _ => true) true n 25 [c0] = some y0 := by have h := hx 0 _ rfl; simpa [Value.cells, cellsB] using h
    have g1 : DataW.trod enc Try.prog W 0 (fun _ => true) true n 25 [c1] = some y1 := by have h := hx 1 _ rfl; simpa [Value.cells, cellsB] using h
    have g2 : DataW.trod enc Try.prog W 0 (fun _ => true) true n 26 [c2] = some y2 := by have h := hx 2 _ rfl; simpa [Value.cells, cellsU] using h
    have g3 : DataW.trod enc Try.prog W 0 (fun _ => true) true n 26 [c3] = some y3 := by have h := hx 3 _ rfl; simpa [Value.cells, cellsU] using h
    obtain ⟨ka, kc, key, rfl, ik, sk⟩ := one_bytes g0
    obtain ⟨va, vc, val, rfl, iv, sv⟩ := one_bytes g1
    obtain ⟨P, r2, _, w2⟩ := DataW.trod_int Try.underlying26 g2
    obtain ⟨S, r3, _, w3⟩ := DataW.trod_int Try.underlying26 g3
    simp only [List.cons.injEq, and_true] at r2 r3
    subst r2 r3
    have b2 := bounds_u32 w2
    have b3 := bounds_u32 w3
    obtain ⟨P, rfl⟩ := Int.eq_ofNat_of_zero_le b2.1
    obtain ⟨S, rfl⟩ := Int.eq_ofNat_of_zero_le b3.1
    have hd : d = .agg [y0.1, y1.1, y2.1, y3.1] := by have := congrArg Prod.fst hxy; simpa using this
    subst hd
    rw [DataW.weights, Try.underlying28] at hsz
    simp only [List.map_cons, List.map_nil, DataW.weightsEach] at hsz
    have hall := List.all_eq_true.1 hsz
    refine ⟨⟨⟨key, val, P, S⟩, ka, kc, va, vc⟩, rfl, ⟨ik, iv, by simp only []; omega, by simp only []; omega⟩, ?_, ?_⟩
    · rcases sk with h0 | ⟨e, s, hd, hle⟩
      · simp only []; omega
      · have h1 := hall _ (List.mem_append.2 (.inl (by rw [hd]; exact slice_wt e s)))
        have h2 := of_decide_eq_true h1
        unfold reachBytes at h2
        simp only []; omega
    · rcases sv with h0 | ⟨e, s, hd, hle⟩
      · simp only []; omega
      · have h1 := hall _ (List.mem_append.2 (.inr (List.mem_append.2 (.inl (by rw [hd]; exact slice_wt e s)))))
        have h2 := of_decide_eq_true h1
        unfold reachBytes at h2
        simp only []; omega
theorem node_entry (w : World) (a b : Value) (x : En) : ∃ w1, w1 = (w.alloc (.cells #[a, b] 24)).alloc (.cells #[.slice x.ka x.e.key.length x.kc, .slice x.va x.e.val.length x.vc, .int .u32 (x.e.page : Int), .int .u32 (x.e.size : Int)] 28) ∧ Below w.heap.size w w1 ∧ w1.heap[w.heap.size]? = some (.cells #[a, b] 24 (0, 0)) ∧ w1.heap[w.heap.size + 1]? = some (.cells #[.slice x.ka x.e.key.length x.kc, .slice x.va x.e.val.length x.vc, .int .u32 (x.e.page : Int), .int .u32 (x.e.size : Int)] 28 (0, 0)) ∧ w1.heap.size = w.heap.size + 2 := by
  refine ⟨_, rfl, two_alloc _ _, (Below.heap_alloc _ _ _ (by simp)).trans (heap_alloc_new w _), ?_, by simp⟩
  have := heap_alloc_new (w.alloc (.cells #[a, b] 24)) (.cells #[.slice x.ka x.e.key.length x.kc, .slice x.va x.e.val.length x.vc, .int .u32 (x.e.page : Int), .int .u32 (x.e.size : Int)] 28)
  rwa [World.size_alloc] at this
end Go.Proofs.Ytcflnkepopcofaa
