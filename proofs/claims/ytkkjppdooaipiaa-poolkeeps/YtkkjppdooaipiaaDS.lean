/- Counts and Pending. -/
import Derived.Test.YtkkjppdooaipiaaDR
namespace Go.Proofs.Ytkkjppdooaipiaa
open Go.RowKit Go.Maps
set_option linter.unusedVariables false

theorem build82 (a b c : Int) (W : World) : (Instr.build 48 #[(0, .int .i64 a), (1, .int .i64 b), (2, .int .i64 c)]).run Try.prog W = .ok (.agg #[.int .i64 a, .int .i64 b, .int .i64 c]) W := run_build W 48 _ _ (by kernel_rfl)
theorem zero82 : ∀ w, (zeroValue 48).run Try.prog w = .ok (.agg #[.int .i64 0, .int .i64 0, .int .i64 0]) w := (zero_of_info (P := Try.prog) (t := 48) (v := .agg #[.int .i64 0, .int .i64 0, .int .i64 0]) (n := 3) (by kernel_rfl)).1
set_option maxHeartbeats 1600000 in
set_option maxRecDepth 1000000 in
theorem counts_any (p q : Nat) (O : Nat → Prop) (S : DS) (w : World) (h : DkAt w p q S O) : Calls Try.prog 16 #[.pointer (some ⟨p, 0, none⟩)] w fun e w' => e = .returned (.agg #[.int .i64 S.n1, .int .i64 S.n2, .int .i64 S.n3]) ∧ Below w.heap.size w w' := by
  obtain ⟨vw, m, hd, ho⟩ := h
  have hd0 := hd.below (below_alloc w (.cells #[.int .i64 0, .int .i64 0, .int .i64 0] 48))
  have c15 := hd0.c 15 (.int .i64 S.n1) rfl
  have c16 := hd0.c 16 (.int .i64 S.n2) rfl
  have c17 := hd0.c 17 (.int .i64 S.n3) rfl
  have hbd := build82 S.n1 S.n2 S.n3
  have hz := zero82
  clear hd ho hd0
  generalize S.n1 = a at *
  generalize S.n2 = b at *
  generalize S.n3 = c at *
  go_enter Try.func16, Try.ntmps16
  go_wp2
  go_region
  have HB : Hid (Below w.heap.size w (w.alloc (.cells #[.int .i64 a, .int .i64 b, .int .i64 c] 48)).drew) := (below_alloc w _).drew
  have HN : Hid ((w.alloc (.cells #[.int .i64 a, .int .i64 b, .int .i64 c] 48)).drew.heap[w.heap.size]? = some (.cells #[.int .i64 a, .int .i64 b, .int .i64 c] 48 (0, 0))) := heap_alloc_new w _
  go_wp2
  refine bodyPost_ret (v := .agg #[.int .i64 a, .int .i64 b, .int .i64 c]) ?_ rfl ?_
  · exact results_cell_row (p := 2) (ty := 48) rfl _ _ w.heap.size 48 _ (0, 0) _ rfl HN.out Try.underlying48 rfl (by kernel_rfl)
  · exact ⟨rfl, HB.out⟩

theorem Try.info3 : (Try.prog.info? 3).map (fun i => (i.zero, i.size, i.bytes)) = some (some (.int .i64 0), 1, 8) := by kernel_rfl
/-- a row of ints of the call's own. -/
def OwnI (w : World) (v : Value) (zs : List Nat) : Prop := w.ownsRow 0 3 1 v zs.length (zs.map fun (n : Nat) => Value.int .i64 (n : Int))
theorem OwnI.of_block {w w' : World} {v : Value} {zs : List Nat} (h : OwnI w v zs) (hb : ∀ k, v.ownBlock = some k → w'.heap[k]? = w.heap[k]?) : OwnI w' v zs := by
  obtain ⟨h1, h2⟩ := h
  refine ⟨h1, ?_⟩
  rcases h2 with h2 | ⟨g, cap, cur, rfl, hg, hh, r⟩
  · exact .inl h2
  · exact .inr ⟨g, cap, cur, rfl, hg, by rw [hb g rfl]; exact hh, r⟩
theorem wpList_append_at {P : Program} {w : World} {ops : Array Oper} {rest : List Oper} {o : Oper} {a : Act} {Q : Exit → Act → World → Prop} (hgd : o.guard = none) (s x : Operand) (t e : TypeId) (ho : o.op = .call { callee := .builtin .append, args := #[s, x], argTypes := #[t, t] })
    (base : Nat) (i : TypeInfo) (z : Value) (size bytes : Nat) (ht : P.underlying t = some (.slice e)) (hi : P.info? e = some i) (hz : i.zero = some z) (hsize : i.size = size) (hby : i.bytes = bytes) (hzs : z.cells.size = size) (hsz : 0 < size)
    (v : Value) (n : Nat) (xs : List Value) (hs : a.eval s = v) (hown : w.ownsRow base e size v n xs) (ad : Addr) (m c : Nat) (news : List Value) (hx : a.eval x = .slice (some ad) m c) (hl : news.length = m * size) (hnews : ∀ j u, news[j]? = some u → w.cell? (ad.add j) = some u) (h1 : ∀ u ∈ news, u.oneCell' = true)
    (h63 : n + m ≤ maxLen) (hbytes : (n + m) * bytes ≤ 140737488355328) (hbase : base ≤ w.heap.size)
    (h : ∀ v' w', w'.ownsRow base e size v' (n + m) (xs ++ news) → w.grownBy w' v.ownBlock → (v'.ownBlock = v.ownBlock ∨ v'.ownBlock = some w.heap.size) → wpList P ops Q rest (a.put o.dst v') w') : wpList P ops Q (o :: rest) a w :=
  wpList_plain hgd fun _ hK => wp_append_at s x t e ho base i z size bytes ht hi hz hsize hby hzs hsz v n xs hs hown ad m c news hx hl hnews h1 h63 hbytes hbase fun v' w' h2 h3 h4 => hK _ _ (h v' w' h2 h3 h4)
end Go.Proofs.Ytkkjppdooaipiaa
