/- What is kept of the cache becomes lasting. -/
import Derived.Test.YtkkjppdooaipiaaDJ
namespace Go.Proofs.Ytkkjppdooaipiaa
open Go.RowKit Go.Maps
set_option linter.unusedVariables false

/-- a slice's first cells hold these bools. -/
def BRow (w : World) (a : Option Addr) (bs : List Bool) : Prop :=
  bs = [] ∨ ∃ b off, a = some ⟨b, off, none⟩ ∧ b < w.heap.size ∧ ∀ i, i < bs.length → w.cell? ⟨b, off + i, none⟩ = some (.bool (bs.getD i false))
theorem BRow.below {w w' : World} {a : Option Addr} {bs : List Bool} {B : Nat} (h : BRow w a bs) (hb : Below B w w') (hB : bs ≠ [] → ∀ ad, a = some ad → ad.block < B) : BRow w' a bs := by
  by_cases h0 : bs = []
  · exact .inl h0
  rcases h with h | ⟨b, off, rfl, hlt, hc⟩
  · exact .inl h
  · exact .inr ⟨b, off, rfl, Nat.lt_of_lt_of_le hlt hb.size, fun i hi => (hb.cell (p := ⟨b, off + i, none⟩) (hB h0 ⟨b, off, none⟩ rfl)).trans (hc i hi)⟩
theorem BRow.mv {O : Nat → Prop} {w w' : World} {a : Option Addr} {bs : List Bool} (h : BRow w a bs) (hm : Mv O w w') (ho : bs ≠ [] → ∀ ad, a = some ad → ¬ O ad.block) : BRow w' a bs := by
  by_cases h0 : bs = []
  · exact .inl h0
  rcases h with h | ⟨b, off, rfl, hlt, hc⟩
  · exact .inl h
  · exact .inr ⟨b, off, rfl, Nat.lt_of_lt_of_le hlt hm.size, fun i hi => hm.cell (hc i hi) (ho h0 _ rfl)⟩

set_option maxHeartbeats 800000 in
set_option maxRecDepth 1000000 in
theorem all_kept (k : Nat) (w : World) : Calls Try.prog 53 #[.int .i64 (k : Int)] w fun e w' => e = .returned (.bool true) ∧ Below w.heap.size w w' := by
  go_enter Try.func53, Try.ntmps53
  go_wp2
  go_ret
  exact ⟨rfl, Below.refl _ _⟩
/-- is the k-th kept? -/
def kp (bs : List Bool) (k : Nat) : Bool := bs.getD k false
set_option maxHeartbeats 800000 in
set_option maxRecDepth 1000000 in
theorem one_kept (kb : Nat) (a : Option Addr) (c : Nat) (bs : List Bool) (k : Nat) (w : World) (h0 : w.cell? ⟨kb, 0, none⟩ = some (.slice a bs.length c)) (hr : BRow w a bs) (hk : k ≤ 1000000) (hl : bs.length ≤ 9223372036854775807) :
    Calls Try.prog 32 #[.int .i64 (k : Int), .pointer (some ⟨kb, 0, none⟩)] w fun e w' => e = .returned (.bool (kp bs k)) ∧ Below w.heap.size w w' := by
  by_cases h : k < bs.length
  · rcases hr with e | ⟨b, off, rfl, hlt, hc⟩
    · rw [e] at h; simp at h
    · have c1 := hc k h
      have HK : Hid (bs.getD k false = kp bs k) := rfl
      rw [HK.out] at c1
      have hd : decide (k < bs.length) = true := by simp [h]
      clear hc
      generalize kp bs k = r at *
      generalize bs.length = n at *
      clear HK
      cases r <;>
      · go_enter Try.func32, Try.ntmps32
        go_wp2
        go_ret
        exact ⟨rfl, Below.refl _ _⟩
  · have HK : Hid (kp bs k = false) := by unfold kp Hid; rw [List.getD_eq_getElem?_getD, List.getElem?_eq_none (by omega)]; rfl
    rw [HK.out]
    have hd : decide (k < bs.length) = false := by simp; omega
    generalize bs.length = n at *
    clear HK hr
    go_enter Try.func32, Try.ntmps32
    go_wp2
    go_ret
    exact ⟨rfl, Below.refl _ _⟩

/-- the lasting sectors behind the first k writes, of those that are kept. -/
def settled (ls : List (List Int)) (ws : List (Nat × List Int)) (f : Nat → Bool) : Nat → List (List Int)
  | 0 => ls
  | k + 1 => if f k then (settled ls ws f k).set (ws.getD k (0, [])).1 (ws.getD k (0, [])).2 else settled ls ws f k
theorem settled_len (ls : List (List Int)) (ws : List (Nat × List Int)) (f : Nat → Bool) : ∀ k, (settled ls ws f k).length = ls.length
  | 0 => rfl
  | k + 1 => by rw [settled]; split <;> simp [settled_len ls ws f k]
theorem settled_good (ls : List (List Int)) (ws : List (Nat × List Int)) (f : Nat → Bool) (h1 : ∀ s ∈ ls, s.length = 128 ∧ Byts s) (h2 : ∀ x ∈ ws, x.2.length = 128 ∧ Byts x.2) : ∀ k, k ≤ ws.length → ∀ s ∈ settled ls ws f k, s.length = 128 ∧ Byts s
  | 0, _ => h1
  | k + 1, hk => by
    intro s hs
    rw [settled] at hs
    split at hs
    · rcases List.mem_or_eq_of_mem_set hs with hs | rfl
      · exact settled_good ls ws f h1 h2 k (by omega) s hs
      · refine h2 (ws.getD k (0, [])) ?_
        rw [List.getD_eq_getElem?_getD, List.getElem?_eq_getElem (by omega)]
        exact List.getElem_mem _
    · exact settled_good ls ws f h1 h2 k (by omega) s hs
theorem run_storeVar_at (w : World) (g o : Nat) (ty t : TypeId) (cur : Array Value) (cells : List Value) (hg : w.heap[g]? = some (.cells cur t (0, 0))) (hi : (Try.prog.info? ty).map (·.size) = some cells.length) (hfit : o + cells.length ≤ cur.size) (h1 : ∀ v ∈ cells, v.oneCell' = true) :
    (storeVar ty ⟨g, o, none⟩ (.agg cells.toArray)).run Try.prog w = .ok () (w.setRow g (cur.toList.take o ++ cells ++ cur.toList.drop (o + cells.length)).toArray) := by
  have := run_storeCells_at Try.prog g o t cells 0 cur w hg (by simpa using hfit) h1
  cases hq : Try.prog.info? ty with
  | none => simp [hq] at hi
  | some i =>
    have hs : i.size = cells.length := by simpa [hq] using hi
    simp only [Nat.add_zero] at this
    simp [storeVar, sizeOf, typeInfo, hq, Value.cells, hs, this]
theorem wp_store_at {op : Oper} {a : Act} {w : World} {K : Act → World → Prop} {Q : Exit → Act → World → Prop} (ty : TypeId) (x y : Operand) (ho : op.op = .store ty x y)
    (g o : Nat) (cells : List Value) (hx : a.eval x = .pointer (some ⟨g, o, none⟩)) (hy : a.eval y = .agg cells.toArray) (t : TypeId) (cur : Array Value)
    (hg : w.heap[g]? = some (.cells cur t (0, 0))) (hi : (Try.prog.info? ty).map (·.size) = some cells.length) (hfit : o + cells.length ≤ cur.size) (h1 : ∀ v ∈ cells, v.oneCell' = true)
    (h : K (a.put op.dst undef) (w.setRow g (cur.toList.take o ++ cells ++ cur.toList.drop (o + cells.length)).toArray)) : op.wp Try.prog a w K Q := by
  unfold Oper.wp execOp
  simp only [ho, hx, hy, Instr.storeAt, Instr.sureAddr, Sem.run_bind, Sem.run_pure, Result.andThen_ok, run_storeVar_at w g o ty t cur cells hg hi hfit h1]
  exact h
theorem zero117 : ∀ w, (zeroValue 112).run Try.prog w = .ok (.agg z117) w := (zero_of_info (P := Try.prog) (t := 112) (v := .agg z117) (n := 129) (by kernel_rfl)).1
end Go.Proofs.Ytkkjppdooaipiaa
