/- The reader of documents: slots laid down, all of them. -/
import Derived.Test.YtehapglbenaikaaKP
import Derived.Maps.AppendAt
namespace Go.Proofs.Ytehapglbenaikaa
open Go.RowKit
set_option linter.unusedVariables false

/-- the cells of the slots that are laid down first. -/
def lay (sn : Nat → Option Addr) (sv : Nat → Addr) (n : Nat) : Nat → List Value
  | 0 => []
  | c + 1 => lay sn sv n c ++ [.pointer (sn (n - 1 - c)), .pointer (some (sv (n - 1 - c)))]
theorem lay_len (sn : Nat → Option Addr) (sv : Nat → Addr) (n : Nat) : ∀ c, (lay sn sv n c).length = c * 2
  | 0 => rfl
  | c + 1 => by simp only [lay, List.length_append, lay_len sn sv n c, List.length_cons, List.length_nil]; omega
theorem owns_below {w w' : World} {B : Nat} {e : TypeId} {s : Nat} {v : Value} {n : Nat} {xs : List Value} (h : w.ownsRow B e s v n xs) (hb : Below w.heap.size w w') : w'.ownsRow B e s v n xs := by
  refine ⟨h.1, ?_⟩
  rcases h.2 with h1 | ⟨g, cap, cur, h1, h2, h3, h4⟩
  · exact .inl h1
  · exact .inr ⟨g, cap, cur, h1, h2, (hb.block g (lt_of_block h3)).trans h3, h4⟩
theorem owns_drew {w : World} {B : Nat} {e : TypeId} {s : Nat} {v : Value} {n : Nat} {xs : List Value} (h : w.ownsRow B e s v n xs) : w.drew.ownsRow B e s v n xs := h
theorem owns_shape {w : World} {B : Nat} {e : TypeId} {s : Nat} {v : Value} {n : Nat} {xs : List Value} (h : w.ownsRow B e s v n xs) : ∃ a c, v = .slice a n c := by
  rcases h.2 with ⟨h1, h2⟩ | ⟨g, cap, cur, h1, _⟩
  · exact ⟨none, 0, by rw [h1, h2]⟩
  · exact ⟨_, _, h1⟩
theorem cell_two_new (w : World) (x y : Value) (t : TypeId) : ∀ j u, [x, y][j]? = some u → (w.alloc (.cells #[x, y] t)).cell? ((⟨w.heap.size, 0, none⟩ : Addr).add j) = some u := by
  intro j u hj
  match j, hj with
  | 0, hj => simp at hj; subst hj; simp [Addr.add]
  | 1, hj => simp at hj; subst hj; simp [Addr.add]
theorem Try.info70 : (Try.prog.info? 70).map (fun i => (i.zero, i.size, i.bytes)) = some (some (.agg #[.pointer none, .pointer none]), 2, 16) := by kernel_rfl
theorem Try.underlying48 : Try.prog.underlying 48 = some (.slice 70) := by kernel_rfl
theorem step_slot {ops : Array Oper} {w : World} {o : Oper} {a : Act} {K : Act → World → Prop} {Q : Exit → Act → World → Prop} {E : Prop} (hgd : o.guard = none) (s x : Operand) (ho : o.op = .call { callee := .builtin .append, args := #[s, x], argTypes := #[48, 48] }) (n₁ : Nat)
    (v : Value) (n : Nat) (xs : List Value) (hs : a.eval s = v) (hown : w.ownsRow n₁ 70 2 v n xs) (ad : Addr) (c : Nat) (hx : a.eval x = .slice (some ad) 1 c) (u1 u2 : Value) (hnews : ∀ j u, [u1, u2][j]? = some u → w.cell? (ad.add j) = some u) (h1 : u1.oneCell' = true) (h2 : u2.oneCell' = true) (hb : n + 1 ≤ 1000000) (hbase : n₁ ≤ w.heap.size)
    (h : ∀ v' w', w'.ownsRow n₁ 70 2 v' (n + 1) (xs ++ [u1, u2]) → w.grownBy w' v.ownBlock → (v'.ownBlock = v.ownBlock ∨ v'.ownBlock = some w.heap.size) → K (a.put o.dst v') w') :
    if Region.wanted o (yielded ops a.tmps) = true then Oper.wp Try.prog o a w K Q else E := by
  have hw : Region.wanted o (yielded ops a.tmps) = true := by simp [Region.wanted, hgd]
  rw [if_pos hw]
  obtain ⟨i0, hi, hz0, hz1, hz2⟩ := info_parts Try.info70
  obtain ⟨v', w', hr, g2, g3, g4, g5⟩ := run_append_own_at (P := Try.prog) w n₁ 48 o.type 70 i0 _ 2 16 Try.underlying48 hi hz0 hz1 hz2 (by rfl) (by omega) v n xs hown ad 1 c [u1, u2] rfl hnews (by intro u hu; simp at hu; rcases hu with rfl | rfl <;> assumption) (by unfold maxLen; omega) (by omega) hbase
  unfold Oper.wp execOp
  simp only [ho, resolve, invoke, builtin, Sem.run_bind, Sem.run_pure, Result.andThen_ok, List.map_toArray, List.map_cons, List.map_nil, hs, hx, hr]
  exact h v' w' g2 g3 g5
/-- c slots of n have been laid down. -/
def Awaited (w : World) (q p n₁ sl N : Nat) (sa : Option Addr) (xs : List Value) (sn : Nat → Option Addr) (sv : Nat → Addr) (n c : Nat) (w' : World) : Prop :=
  ∃ sa' sc', Dr w' q p sa' (sl + c) sc' N ∧ w'.ownsRow n₁ 70 2 (.slice sa' (sl + c) sc') (sl + c) (xs ++ lay sn sv n c) ∧ (∀ ad, sa' = some ad → (∃ a0, sa = some a0 ∧ a0.block = ad.block) ∨ w.heap.size ≤ ad.block) ∧ (∀ ad, sa' = some ad → ad.block ≠ q) ∧ Kp (fun k => k = q ∨ ∃ ad, sa = some ad ∧ ad.block = k) w w'
theorem Awaited.step {w wr : World} {q p n₁ sl N : Nat} {sa : Option Addr} {xs : List Value} {sn : Nat → Option Addr} {sv : Nat → Addr} {n c i : Nat} {sa' : Option Addr} {sc' : Nat} (hi : n = c + 1 + i)
    (hd : Dr wr q p sa' (sl + c) sc' N) (hor : ∀ ad, sa' = some ad → (∃ a0, sa = some a0 ∧ a0.block = ad.block) ∨ w.heap.size ≤ ad.block) (hq : ∀ ad, sa' = some ad → ad.block ≠ q) (hk : Kp (fun k => k = q ∨ ∃ ad, sa = some ad ∧ ad.block = k) w wr)
    (V W9 : World) (sa9 : Option Addr) (sc9 : Nat) (hb : Below wr.drew.heap.size wr.drew V) (ho : W9.ownsRow n₁ 70 2 (.slice sa9 (sl + c + 1) sc9) (sl + c + 1) (xs ++ lay sn sv n c ++ [.pointer (sn i), .pointer (some (sv i))]))
    (hg : (V.alloc (.cells #[.pointer (sn i), .pointer (some (sv i))] 70)).grownBy W9 (Value.slice sa' (sl + c) sc').ownBlock) (hat : (Value.slice sa9 (sl + c + 1) sc9).ownBlock = (Value.slice sa' (sl + c) sc').ownBlock ∨ (Value.slice sa9 (sl + c + 1) sc9).ownBlock = some (V.alloc (.cells #[.pointer (sn i), .pointer (some (sv i))] 70)).heap.size)
    (hd9 : Dr W9 q p sa' (sl + c) sc' N) : Awaited w q p n₁ sl N sa xs sn sv n (c + 1) (W9.setCell ⟨q, 1, none⟩ (.slice sa9 (sl + c + 1) sc9)) := by
  have hvs := hb.size
  have hws : w.heap.size ≤ wr.heap.size := hk.size
  have hql : q < wr.heap.size := hd.lt
  have hbl : wr.drew.heap.size = wr.heap.size := rfl
  have hva : (V.alloc (.cells #[.pointer (sn i), .pointer (some (sv i))] 70)).heap.size = V.heap.size + 1 := by simp
  obtain ⟨g, cap, cur, he, hg1, hg2, hg3⟩ : ∃ g cap cur, Value.slice sa9 (sl + c + 1) sc9 = .slice (some ⟨g, 0, none⟩) (sl + c + 1) cap ∧ n₁ ≤ g ∧ W9.heap[g]? = some (.cells cur 70 (0, 0)) ∧ sl + c + 1 ≤ cap ∧ cap ≤ maxLen ∧ cur.size = cap * 2 ∧ cur.toList.take ((sl + c + 1) * 2) = xs ++ lay sn sv n c ++ [.pointer (sn i), .pointer (some (sv i))] := by
    rcases ho.2 with ⟨_, h0⟩ | h
    · omega
    · exact h
  have hsa : sa9 = some ⟨g, 0, none⟩ ∧ sc9 = cap := by simpa using he
  obtain ⟨rfl, rfl⟩ := hsa
  simp only [Value.ownBlock, Option.some.injEq] at hat
  have hgq : g ≠ q := by
    intro e
    subst e
    rcases hat with h | h
    · cases sa' with
      | none => simp at h
      | some ad => exact hq ad rfl (by simpa [Value.ownBlock] using h.symm)
    · omega
  have hlast : n - 1 - c = i := by omega
  refine ⟨some ⟨g, 0, none⟩, sc9, hd9.setS _ _ _, ?_, ?_, ?_, ?_⟩
  · refine ⟨?_, .inr ⟨g, sc9, cur, rfl, hg1, ?_, hg3.1, hg3.2.1, hg3.2.2.1, ?_⟩⟩
    · have := ho.1
      simp only [List.length_append, lay_len, List.length_cons, List.length_nil] at this ⊢
      omega
    · rw [Below.heap_setCell _ _ _ _ (by simpa using hgq)]; exact hg2
    · rw [show sl + (c + 1) = sl + c + 1 by omega, hg3.2.2.2]
      simp only [lay, hlast, List.append_assoc]
  · intro ad had
    cases had
    rcases hat with h | h
    · cases sa' with
      | none => simp at h
      | some ad =>
        have e1 : g = ad.block := by simpa [Value.ownBlock] using h
        rcases hor ad rfl with h' | h'
        · left
          obtain ⟨a0, h1, h2⟩ := h'
          exact ⟨a0, h1, by rw [h2, e1]⟩
        · right; simp only []; omega
    · right; simp only []; omega
  · intro ad had
    cases had
    exact hgq
  · refine ⟨hg.os.trans (hb.os.trans hk.os), hg.tape.trans (hb.tape.trans hk.tape), hg.output.trans (hb.output.trans hk.output), ?_, fun k hk1 hk2 => ?_⟩
    · have := hg.size
      rw [World.size_setCell]
      omega
    · rw [Below.heap_setCell _ _ _ _ (by intro e; exact hk2 (.inl e))]
      rw [hg.block k (by omega) ?_]
      · rw [Below.heap_alloc V _ k (by omega), hb.block k (by omega)]
        exact hk.block k hk1 hk2
      · intro e
        cases sa' with
        | none => simp [Value.ownBlock] at e
        | some ad =>
          have e1 : ad.block = k := by simpa [Value.ownBlock] using e.symm
          rcases hor ad rfl with ⟨a0, h1, h2⟩ | h'
          · exact hk2 (.inr ⟨a0, h1, by rw [h2, e1]⟩)
          · omega
set_option maxHeartbeats 3200000 in
set_option maxRecDepth 1000000 in
theorem awaitL (bx : Nat) (sn : Nat → Option Addr) (sv : Nat → Addr) (q p n n₁ sl sc N : Nat) (sa : Option Addr) (xs : List Value) (w : World) (hn : n ≤ 512) (hd : Dr w q p sa sl sc N) (hs : w.ownsRow n₁ 70 2 (.slice sa sl sc) sl xs) (hsq : ∀ ad, sa = some ad → ad.block ≠ q) (hn1 : n₁ ≤ w.heap.size) (hsl : sl ≤ 100000)
    (hcl : ∀ W (i : Nat), i < n → w.heap.size ≤ W.heap.size → (∀ k, k < w.heap.size → k ≠ q → (∀ ad, sa = some ad → ad.block ≠ k) → W.heap[k]? = w.heap[k]?) → Calls Try.prog 33 #[.int .i64 (i : Int), .pointer (some ⟨bx, 0, none⟩)] W fun e w' => e = .returned (.agg #[.pointer (sn i), .pointer (some (sv i))]) ∧ Below W.heap.size W w') :
    Calls Try.prog 32 #[.pointer (some ⟨q, 0, none⟩), .int .i64 (n : Int), .func (.func 33) #[] #[.pointer (some ⟨bx, 0, none⟩)]] w fun e w' => e = .returned (.tuple #[]) ∧ Awaited w q p n₁ sl N sa xs sn sv n n w' := by
  have HD := hide hd
  have HS := hide hs
  have HQ := hide hsq
  have HC := hide hcl
  have HN : Hid (Awaited w q p n₁ sl N sa xs sn sv n 0 w) := ⟨sa, sc, hd, by simpa [lay] using hs, fun ad h => .inl ⟨ad, h, rfl⟩, hsq, Kp.refl _ _⟩
  clear hd hs hsq hcl
  go_enter Try.func32, Try.ntmps32
  have hsub : IntKind.i64.wrap ((n : Int) - 1) = (n : Int) - 1 := by simp only [IntKind.wrap, IntKind.bits, IntKind.signed]; simp; omega
  go_wp2
  go_loopw [6] (fun x wr => ∃ c : Nat, x = .int .i64 ((n : Int) - 1 - (c : Int)) ∧ c ≤ n ∧ Awaited w q p n₁ sl N sa xs sn sv n c wr) (fun x _ => (intOf x + 1).toNat)
  case atStart => exact ⟨0, by simp, by omega, HN.out⟩
  obtain ⟨c, rfl, hcn, hA⟩ := hrel
  have HA := hide hA
  clear hA
  by_cases hlt : c < n
  · obtain ⟨i, hi⟩ : ∃ i : Nat, n = c + 1 + i := ⟨n - c - 1, by omega⟩
    have hi' : (n : Int) - 1 - (c : Int) = (i : Int) := by omega
    rw [hi']
    obtain ⟨sa', sc', hd', hs', hor', hq', hk'⟩ := HA.out
    obtain ⟨k0, k1, k2⟩ := hd'.cells
    have HDl : Hid (q < wr.drew.heap.size) := hd'.lt
    have HCl := hide (HC.out wr.drew i (by omega) hk'.size (fun k hk hne had => hk'.block k hk (fun h => by rcases h with h | ⟨ad, h1, h2⟩; exact hne h; exact had ad h1 h2)))
    have HSl : Hid (∀ V, Below wr.drew.heap.size wr.drew V → (V.alloc (.cells #[.pointer (sn i), .pointer (some (sv i))] 70)).ownsRow n₁ 70 2 (.slice sa' (sl + c) sc') (sl + c) (xs ++ lay sn sv n c)) := fun V hb => owns_below (owns_drew hs') (hb.trans ((below_alloc V _).mono hb.size))
    have HSz : Hid (∀ V, Below wr.drew.heap.size wr.drew V → n₁ ≤ (V.alloc (.cells #[.pointer (sn i), .pointer (some (sv i))] 70)).heap.size) := fun V hb => by
      have h1 := hb.size
      have h2 : w.heap.size ≤ wr.drew.heap.size := hk'.size
      simp; omega
    have HD9 : Hid (∀ V W9, Below wr.drew.heap.size wr.drew V → (V.alloc (.cells #[.pointer (sn i), .pointer (some (sv i))] 70)).grownBy W9 (Value.slice sa' (sl + c) sc').ownBlock → Dr W9 q p sa' (sl + c) sc' N) := fun V W9 hb hg => by
      refine (hg.block q ?_ ?_).trans (((below_alloc V _).block q (Nat.lt_of_lt_of_le HDl.out hb.size)).trans ((hb.block q HDl.out).trans hd'))
      · simp; have := HDl.out; have := hb.size; omega
      · intro e
        cases sa' with
        | none => simp [Value.ownBlock] at e
        | some ad => exact hq' ad rfl (by simpa [Value.ownBlock] using e.symm)
    have HEnd := hide (fun V W9 sa9 sc9 => Awaited.step (n₁ := n₁) (xs := xs) (sn := sn) (sv := sv) (p := p) (N := N) (sa9 := sa9) (sc9 := sc9) (V := V) (W9 := W9) hi hd' hor' hq' hk')
    have HI := hide hi
    have hi63 : i ≤ 600 := by omega
    clear hd' hs' hor' hq' hk' hi hi'
    go_wp2
    refine wp_region_any (by kernel_rfl) ?_
    change wpAny _ _ _ _ _ _ _ (World.drew _)
    refine wpAny_take (i := 0) (oi := { dst := some 13, op := Op.move (Operand.tmp 0), type := 65, pos := "read.go:92", after := #[], guard := none }) (v := ?v0x1) rfl (by kernel_rfl) (by kernel_rfl) (by kernel_rfl) (fun _ _ _ h => h) (Or.inl ⟨by rfl, ?hy0x1⟩) ?rest0x1
    case hy0x1 => (intro w; (first | (go_simp; with_reducible rfl) | go_simp))
    try simp only [Act.put, List.setIfInBounds_toArray, List.set_cons_zero, List.set_cons_succ]
    refine wpAny_take (i := 1) (oi := { dst := some 14, op := Op.move (Operand.tmp 0), type := 65, pos := "read.go:92", after := #[], guard := none }) (v := ?v1x2) rfl (by kernel_rfl) (by kernel_rfl) (by kernel_rfl) (fun _ _ _ h => h) (Or.inl ⟨by rfl, ?hy1x2⟩) ?rest1x2
    case hy1x2 => (intro w; (first | (go_simp; with_reducible rfl) | go_simp))
    try simp only [Act.put, List.setIfInBounds_toArray, List.set_cons_zero, List.set_cons_succ]
    refine wpAny_take (i := 2) (oi := { dst := some 15, op := Op.nilCheck (Operand.tmp 14), type := 0, pos := "read.go:92", after := #[{ on := 1, ground := Ground.data }], guard := none }) (v := ?v2x3) rfl (by kernel_rfl) (by kernel_rfl) (by kernel_rfl) (fun _ _ _ h => h) (Or.inl ⟨by rfl, ?hy2x3⟩) ?rest2x3
    case hy2x3 => (intro w; (first | (go_simp; with_reducible rfl) | go_simp))
    try simp only [Act.put, List.setIfInBounds_toArray, List.set_cons_zero, List.set_cons_succ]
    refine wpAny_take (i := 3) (oi := { dst := some 16, op := Op.fieldAddr 51 (Operand.tmp 15) 1, type := 0, pos := "read.go:92", after := #[{ on := 2, ground := Ground.data }], guard := none }) (v := ?v3x4) rfl (by kernel_rfl) (by kernel_rfl) (by kernel_rfl) (fun _ _ _ h => h) (Or.inl ⟨by rfl, ?hy3x4⟩) ?rest3x4
    case hy3x4 => (intro w; (first | (go_simp; with_reducible rfl) | go_simp))
    try simp only [Act.put, List.setIfInBounds_toArray, List.set_cons_zero, List.set_cons_succ]
    refine wpAny_take (i := 5) (oi := { dst := some 18, op := Op.move (Operand.tmp 2), type := 78, pos := "read.go:92", after := #[], guard := none }) (v := ?v5x5) rfl (by kernel_rfl) (by kernel_rfl) (by kernel_rfl) (fun _ _ _ h => h) (Or.inl ⟨by rfl, ?hy5x5⟩) ?rest5x5
    case hy5x5 => (intro w; (first | (go_simp; with_reducible rfl) | go_simp))
    try simp only [Act.put, List.setIfInBounds_toArray, List.set_cons_zero, List.set_cons_succ]
    refine wpAny_take (i := 6) (oi := { dst := some 19, op := Op.move (Operand.tmp 6), type := 3, pos := "read.go:92", after := #[], guard := none }) (v := ?v6x6) rfl (by kernel_rfl) (by kernel_rfl) (by kernel_rfl) (fun _ _ _ h => h) (Or.inl ⟨by rfl, ?hy6x6⟩) ?rest6x6
    case hy6x6 => (intro w; (first | (go_simp; with_reducible rfl) | go_simp))
    try simp only [Act.put, List.setIfInBounds_toArray, List.set_cons_zero, List.set_cons_succ]
    refine wpAny_ready (rs := [4, 7]) (by kernel_rfl) (by simp) ?_
    refine AllReady.cons (o := { dst := some 17, op := Op.load 48 (Operand.tmp 16), type := 48, pos := "read.go:92", after := #[{ on := 3, ground := Ground.data }], guard := none }) rfl (fun K hK => ?_) (AllReady.cons (o := { dst := some 20, op := Op.call { callee := Callee.value (Operand.tmp 18), args := #[Operand.tmp 19], argTypes := #[3] }, type := 70, pos := "read.go:92", after := #[{ on := 5, ground := Ground.data }, { on := 6, ground := Ground.data }], guard := none }) rfl (fun K hK => ?_) (AllReady.nil))
    · go_simp
      refine hK _ _ ?_
      clear hK K
      try simp only [Act.put, List.setIfInBounds_toArray, List.set_cons_zero, List.set_cons_succ]
      refine wpAny_ready (rs := [7]) (by kernel_rfl) (by simp) ?_
      refine AllReady.cons (o := { dst := some 20, op := Op.call { callee := Callee.value (Operand.tmp 18), args := #[Operand.tmp 19], argTypes := #[3] }, type := 70, pos := "read.go:92", after := #[{ on := 5, ground := Ground.data }, { on := 6, ground := Ground.data }], guard := none }) rfl (fun K hK => ?_) (AllReady.nil)
      go_simp
      refine HCl.out.mono ?_
      rintro e V ⟨rfl, hbV⟩
      have HBV := hide hbV
      have v1 : V.cell? ⟨q, 1, none⟩ = some (.slice sa' (sl + c) sc') := (hbV.cell (p := ⟨q, 1, none⟩) HDl.out).trans k1
      have v2 : (V.alloc (.cells #[.pointer (sn i), .pointer (some (sv i))] 70)).cell? ⟨q, 1, none⟩ = some (.slice sa' (sl + c) sc') := ((below_alloc V _).cell (p := ⟨q, 1, none⟩) (Nat.lt_of_lt_of_le HDl.out hbV.size)).trans v1
      clear hbV
      go_simp
      refine hK _ _ ?_
      clear hK K
      try simp only [Act.put, List.setIfInBounds_toArray, List.set_cons_zero, List.set_cons_succ]
      refine wpAny_ready (rs := [8]) (by kernel_rfl) (by simp) ?_
      refine AllReady.cons (o := { dst := some 21, op := Op.buildSlice 48 1 #[(0, Operand.tmp 20)], type := 48, pos := "read.go:92", after := #[{ on := 7, ground := Ground.data }], guard := none }) rfl (fun K hK => ?_) (AllReady.nil)
      go_simp
      refine hK _ _ ?_
      clear hK K
      try simp only [Act.put, List.setIfInBounds_toArray, List.set_cons_zero, List.set_cons_succ]
      refine wpAny_ready (rs := [9]) (by kernel_rfl) (by simp) ?_
      refine AllReady.cons (o := { dst := some 22, op := Op.call { callee := Callee.builtin Builtin.append, args := #[Operand.tmp 17, Operand.tmp 21], argTypes := #[48, 48] }, type := 48, pos := "read.go:92", after := #[{ on := 4, ground := Ground.data }, { on := 8, ground := Ground.data }, { on := 7, ground := Ground.chain }], guard := none }) rfl (fun K hK => ?_) (AllReady.nil)
      refine step_slot rfl (.tmp 17) (.tmp 21) rfl n₁ _ _ _ rfl (HSl.out V HBV.out) ⟨V.heap.size, 0, none⟩ 1 rfl (.pointer (sn i)) (.pointer (some (sv i))) (cell_two_new V _ _ 70) rfl rfl (by omega) (HSz.out V HBV.out) ?_
      intro v' W9 ho9 hg9 hat9
      obtain ⟨sa9, sc9, rfl⟩ := owns_shape ho9
      have HO9 := hide ho9
      have HG9 := hide hg9
      have HA9 := hide hat9
      clear ho9 hg9 hat9
      have hd9 := HD9.out V W9 HBV.out HG9.out
      obtain ⟨d0, d1, d2⟩ := hd9.cells
      have d3 := hd9.free 1
      have HDD := hide hd9
      clear hd9
      refine hK _ _ ?_
      clear hK K
      try simp only [Act.put, List.setIfInBounds_toArray, List.set_cons_zero, List.set_cons_succ]
      refine wpAny_take (i := 10) (oi := { dst := some 23, op := Op.nilCheck (Operand.tmp 13), type := 0, pos := "read.go:92", after := #[{ on := 0, ground := Ground.data }, { on := 0, ground := Ground.phase }, { on := 1, ground := Ground.phase }, { on := 2, ground := Ground.phase }, { on := 3, ground := Ground.phase }, { on := 4, ground := Ground.phase }, { on := 5, ground := Ground.phase }, { on := 6, ground := Ground.phase }, { on := 7, ground := Ground.phase }, { on := 8, ground := Ground.phase }, { on := 9, ground := Ground.phase }], guard := none }) (v := ?v10x7) rfl (by kernel_rfl) (by kernel_rfl) (by kernel_rfl) (fun _ _ _ h => h) (Or.inl ⟨by rfl, ?hy10x7⟩) ?rest10x7
      case hy10x7 => (intro w; (first | (go_simp; with_reducible rfl) | go_simp))
      try simp only [Act.put, List.setIfInBounds_toArray, List.set_cons_zero, List.set_cons_succ]
      refine wpAny_take (i := 11) (oi := { dst := some 24, op := Op.fieldAddr 51 (Operand.tmp 23) 1, type := 0, pos := "read.go:92", after := #[{ on := 10, ground := Ground.data }, { on := 0, ground := Ground.phase }, { on := 1, ground := Ground.phase }, { on := 2, ground := Ground.phase }, { on := 3, ground := Ground.phase }, { on := 4, ground := Ground.phase }, { on := 5, ground := Ground.phase }, { on := 6, ground := Ground.phase }, { on := 7, ground := Ground.phase }, { on := 8, ground := Ground.phase }, { on := 9, ground := Ground.phase }], guard := none }) (v := ?v11x8) rfl (by kernel_rfl) (by kernel_rfl) (by kernel_rfl) (fun _ _ _ h => h) (Or.inl ⟨by rfl, ?hy11x8⟩) ?rest11x8
      case hy11x8 => (intro w; (first | (go_simp; with_reducible rfl) | go_simp))
      try simp only [Act.put, List.setIfInBounds_toArray, List.set_cons_zero, List.set_cons_succ]
      refine wpAny_ready (rs := [12]) (by kernel_rfl) (by simp) ?_
      refine AllReady.cons (o := { dst := none, op := Op.store 48 (Operand.tmp 24) (Operand.tmp 22), type := 0, pos := "read.go:92", after := #[{ on := 11, ground := Ground.data }, { on := 9, ground := Ground.data }, { on := 9, ground := Ground.chain }, { on := 0, ground := Ground.phase }, { on := 1, ground := Ground.phase }, { on := 2, ground := Ground.phase }, { on := 3, ground := Ground.phase }, { on := 4, ground := Ground.phase }, { on := 5, ground := Ground.phase }, { on := 6, ground := Ground.phase }, { on := 7, ground := Ground.phase }, { on := 8, ground := Ground.phase }, { on := 9, ground := Ground.phase }], guard := none }) rfl (fun K hK => ?_) (AllReady.nil)
      go_simp
      refine hK _ _ ?_
      clear hK K
      try simp only [Act.put, List.setIfInBounds_toArray, List.set_cons_zero, List.set_cons_succ]
      refine wpAny_done (by kernel_rfl) ?_ _
      go_wp2
      go_roundw
      case rel => exact ⟨c + 1, by rw [show (i : Int) - 1 = (n : Int) - 1 - ((c + 1 : Nat) : Int) by have := HI.out; omega], by omega, HEnd.out V W9 sa9 sc9 HBV.out HO9.out HG9.out HA9.out HDD.out⟩
      case measure => simp [intOf]
    · go_simp
      refine HCl.out.mono ?_
      rintro e V ⟨rfl, hbV⟩
      have HBV := hide hbV
      have v1 : V.cell? ⟨q, 1, none⟩ = some (.slice sa' (sl + c) sc') := (hbV.cell (p := ⟨q, 1, none⟩) HDl.out).trans k1
      have v2 : (V.alloc (.cells #[.pointer (sn i), .pointer (some (sv i))] 70)).cell? ⟨q, 1, none⟩ = some (.slice sa' (sl + c) sc') := ((below_alloc V _).cell (p := ⟨q, 1, none⟩) (Nat.lt_of_lt_of_le HDl.out hbV.size)).trans v1
      clear hbV
      go_simp
      refine hK _ _ ?_
      clear hK K
      try simp only [Act.put, List.setIfInBounds_toArray, List.set_cons_zero, List.set_cons_succ]
      refine wpAny_ready (rs := [4, 8]) (by kernel_rfl) (by simp) ?_
      refine AllReady.cons (o := { dst := some 17, op := Op.load 48 (Operand.tmp 16), type := 48, pos := "read.go:92", after := #[{ on := 3, ground := Ground.data }], guard := none }) rfl (fun K hK => ?_) (AllReady.cons (o := { dst := some 21, op := Op.buildSlice 48 1 #[(0, Operand.tmp 20)], type := 48, pos := "read.go:92", after := #[{ on := 7, ground := Ground.data }], guard := none }) rfl (fun K hK => ?_) (AllReady.nil))
      · go_simp
        refine hK _ _ ?_
        clear hK K
        try simp only [Act.put, List.setIfInBounds_toArray, List.set_cons_zero, List.set_cons_succ]
        refine wpAny_ready (rs := [8]) (by kernel_rfl) (by simp) ?_
        refine AllReady.cons (o := { dst := some 21, op := Op.buildSlice 48 1 #[(0, Operand.tmp 20)], type := 48, pos := "read.go:92", after := #[{ on := 7, ground := Ground.data }], guard := none }) rfl (fun K hK => ?_) (AllReady.nil)
        go_simp
        refine hK _ _ ?_
        clear hK K
        try simp only [Act.put, List.setIfInBounds_toArray, List.set_cons_zero, List.set_cons_succ]
        refine wpAny_ready (rs := [9]) (by kernel_rfl) (by simp) ?_
        refine AllReady.cons (o := { dst := some 22, op := Op.call { callee := Callee.builtin Builtin.append, args := #[Operand.tmp 17, Operand.tmp 21], argTypes := #[48, 48] }, type := 48, pos := "read.go:92", after := #[{ on := 4, ground := Ground.data }, { on := 8, ground := Ground.data }, { on := 7, ground := Ground.chain }], guard := none }) rfl (fun K hK => ?_) (AllReady.nil)
        refine step_slot rfl (.tmp 17) (.tmp 21) rfl n₁ _ _ _ rfl (HSl.out V HBV.out) ⟨V.heap.size, 0, none⟩ 1 rfl (.pointer (sn i)) (.pointer (some (sv i))) (cell_two_new V _ _ 70) rfl rfl (by omega) (HSz.out V HBV.out) ?_
        intro v' W9 ho9 hg9 hat9
        obtain ⟨sa9, sc9, rfl⟩ := owns_shape ho9
        have HO9 := hide ho9
        have HG9 := hide hg9
        have HA9 := hide hat9
        clear ho9 hg9 hat9
        have hd9 := HD9.out V W9 HBV.out HG9.out
        obtain ⟨d0, d1, d2⟩ := hd9.cells
        have d3 := hd9.free 1
        have HDD := hide hd9
        clear hd9
        refine hK _ _ ?_
        clear hK K
        try simp only [Act.put, List.setIfInBounds_toArray, List.set_cons_zero, List.set_cons_succ]
        refine wpAny_take (i := 10) (oi := { dst := some 23, op := Op.nilCheck (Operand.tmp 13), type := 0, pos := "read.go:92", after := #[{ on := 0, ground := Ground.data }, { on := 0, ground := Ground.phase }, { on := 1, ground := Ground.phase }, { on := 2, ground := Ground.phase }, { on := 3, ground := Ground.phase }, { on := 4, ground := Ground.phase }, { on := 5, ground := Ground.phase }, { on := 6, ground := Ground.phase }, { on := 7, ground := Ground.phase }, { on := 8, ground := Ground.phase }, { on := 9, ground := Ground.phase }], guard := none }) (v := ?v10x9) rfl (by kernel_rfl) (by kernel_rfl) (by kernel_rfl) (fun _ _ _ h => h) (Or.inl ⟨by rfl, ?hy10x9⟩) ?rest10x9
        case hy10x9 => (intro w; (first | (go_simp; with_reducible rfl) | go_simp))
        try simp only [Act.put, List.setIfInBounds_toArray, List.set_cons_zero, List.set_cons_succ]
        refine wpAny_take (i := 11) (oi := { dst := some 24, op := Op.fieldAddr 51 (Operand.tmp 23) 1, type := 0, pos := "read.go:92", after := #[{ on := 10, ground := Ground.data }, { on := 0, ground := Ground.phase }, { on := 1, ground := Ground.phase }, { on := 2, ground := Ground.phase }, { on := 3, ground := Ground.phase }, { on := 4, ground := Ground.phase }, { on := 5, ground := Ground.phase }, { on := 6, ground := Ground.phase }, { on := 7, ground := Ground.phase }, { on := 8, ground := Ground.phase }, { on := 9, ground := Ground.phase }], guard := none }) (v := ?v11x10) rfl (by kernel_rfl) (by kernel_rfl) (by kernel_rfl) (fun _ _ _ h => h) (Or.inl ⟨by rfl, ?hy11x10⟩) ?rest11x10
        case hy11x10 => (intro w; (first | (go_simp; with_reducible rfl) | go_simp))
        try simp only [Act.put, List.setIfInBounds_toArray, List.set_cons_zero, List.set_cons_succ]
        refine wpAny_ready (rs := [12]) (by kernel_rfl) (by simp) ?_
        refine AllReady.cons (o := { dst := none, op := Op.store 48 (Operand.tmp 24) (Operand.tmp 22), type := 0, pos := "read.go:92", after := #[{ on := 11, ground := Ground.data }, { on := 9, ground := Ground.data }, { on := 9, ground := Ground.chain }, { on := 0, ground := Ground.phase }, { on := 1, ground := Ground.phase }, { on := 2, ground := Ground.phase }, { on := 3, ground := Ground.phase }, { on := 4, ground := Ground.phase }, { on := 5, ground := Ground.phase }, { on := 6, ground := Ground.phase }, { on := 7, ground := Ground.phase }, { on := 8, ground := Ground.phase }, { on := 9, ground := Ground.phase }], guard := none }) rfl (fun K hK => ?_) (AllReady.nil)
        go_simp
        refine hK _ _ ?_
        clear hK K
        try simp only [Act.put, List.setIfInBounds_toArray, List.set_cons_zero, List.set_cons_succ]
        refine wpAny_done (by kernel_rfl) ?_ _
        go_wp2
        go_roundw
        case rel => exact ⟨c + 1, by rw [show (i : Int) - 1 = (n : Int) - 1 - ((c + 1 : Nat) : Int) by have := HI.out; omega], by omega, HEnd.out V W9 sa9 sc9 HBV.out HO9.out HG9.out HA9.out HDD.out⟩
        case measure => simp [intOf]
      · go_simp
        refine hK _ _ ?_
        clear hK K
        try simp only [Act.put, List.setIfInBounds_toArray, List.set_cons_zero, List.set_cons_succ]
        refine wpAny_ready (rs := [4]) (by kernel_rfl) (by simp) ?_
        refine AllReady.cons (o := { dst := some 17, op := Op.load 48 (Operand.tmp 16), type := 48, pos := "read.go:92", after := #[{ on := 3, ground := Ground.data }], guard := none }) rfl (fun K hK => ?_) (AllReady.nil)
        go_simp
        refine hK _ _ ?_
        clear hK K
        try simp only [Act.put, List.setIfInBounds_toArray, List.set_cons_zero, List.set_cons_succ]
        refine wpAny_ready (rs := [9]) (by kernel_rfl) (by simp) ?_
        refine AllReady.cons (o := { dst := some 22, op := Op.call { callee := Callee.builtin Builtin.append, args := #[Operand.tmp 17, Operand.tmp 21], argTypes := #[48, 48] }, type := 48, pos := "read.go:92", after := #[{ on := 4, ground := Ground.data }, { on := 8, ground := Ground.data }, { on := 7, ground := Ground.chain }], guard := none }) rfl (fun K hK => ?_) (AllReady.nil)
        refine step_slot rfl (.tmp 17) (.tmp 21) rfl n₁ _ _ _ rfl (HSl.out V HBV.out) ⟨V.heap.size, 0, none⟩ 1 rfl (.pointer (sn i)) (.pointer (some (sv i))) (cell_two_new V _ _ 70) rfl rfl (by omega) (HSz.out V HBV.out) ?_
        intro v' W9 ho9 hg9 hat9
        obtain ⟨sa9, sc9, rfl⟩ := owns_shape ho9
        have HO9 := hide ho9
        have HG9 := hide hg9
        have HA9 := hide hat9
        clear ho9 hg9 hat9
        have hd9 := HD9.out V W9 HBV.out HG9.out
        obtain ⟨d0, d1, d2⟩ := hd9.cells
        have d3 := hd9.free 1
        have HDD := hide hd9
        clear hd9
        refine hK _ _ ?_
        clear hK K
        try simp only [Act.put, List.setIfInBounds_toArray, List.set_cons_zero, List.set_cons_succ]
        refine wpAny_take (i := 10) (oi := { dst := some 23, op := Op.nilCheck (Operand.tmp 13), type := 0, pos := "read.go:92", after := #[{ on := 0, ground := Ground.data }, { on := 0, ground := Ground.phase }, { on := 1, ground := Ground.phase }, { on := 2, ground := Ground.phase }, { on := 3, ground := Ground.phase }, { on := 4, ground := Ground.phase }, { on := 5, ground := Ground.phase }, { on := 6, ground := Ground.phase }, { on := 7, ground := Ground.phase }, { on := 8, ground := Ground.phase }, { on := 9, ground := Ground.phase }], guard := none }) (v := ?v10x11) rfl (by kernel_rfl) (by kernel_rfl) (by kernel_rfl) (fun _ _ _ h => h) (Or.inl ⟨by rfl, ?hy10x11⟩) ?rest10x11
        case hy10x11 => (intro w; (first | (go_simp; with_reducible rfl) | go_simp))
        try simp only [Act.put, List.setIfInBounds_toArray, List.set_cons_zero, List.set_cons_succ]
        refine wpAny_take (i := 11) (oi := { dst := some 24, op := Op.fieldAddr 51 (Operand.tmp 23) 1, type := 0, pos := "read.go:92", after := #[{ on := 10, ground := Ground.data }, { on := 0, ground := Ground.phase }, { on := 1, ground := Ground.phase }, { on := 2, ground := Ground.phase }, { on := 3, ground := Ground.phase }, { on := 4, ground := Ground.phase }, { on := 5, ground := Ground.phase }, { on := 6, ground := Ground.phase }, { on := 7, ground := Ground.phase }, { on := 8, ground := Ground.phase }, { on := 9, ground := Ground.phase }], guard := none }) (v := ?v11x12) rfl (by kernel_rfl) (by kernel_rfl) (by kernel_rfl) (fun _ _ _ h => h) (Or.inl ⟨by rfl, ?hy11x12⟩) ?rest11x12
        case hy11x12 => (intro w; (first | (go_simp; with_reducible rfl) | go_simp))
        try simp only [Act.put, List.setIfInBounds_toArray, List.set_cons_zero, List.set_cons_succ]
        refine wpAny_ready (rs := [12]) (by kernel_rfl) (by simp) ?_
        refine AllReady.cons (o := { dst := none, op := Op.store 48 (Operand.tmp 24) (Operand.tmp 22), type := 0, pos := "read.go:92", after := #[{ on := 11, ground := Ground.data }, { on := 9, ground := Ground.data }, { on := 9, ground := Ground.chain }, { on := 0, ground := Ground.phase }, { on := 1, ground := Ground.phase }, { on := 2, ground := Ground.phase }, { on := 3, ground := Ground.phase }, { on := 4, ground := Ground.phase }, { on := 5, ground := Ground.phase }, { on := 6, ground := Ground.phase }, { on := 7, ground := Ground.phase }, { on := 8, ground := Ground.phase }, { on := 9, ground := Ground.phase }], guard := none }) rfl (fun K hK => ?_) (AllReady.nil)
        go_simp
        refine hK _ _ ?_
        clear hK K
        try simp only [Act.put, List.setIfInBounds_toArray, List.set_cons_zero, List.set_cons_succ]
        refine wpAny_done (by kernel_rfl) ?_ _
        go_wp2
        go_roundw
        case rel => exact ⟨c + 1, by rw [show (i : Int) - 1 = (n : Int) - 1 - ((c + 1 : Nat) : Int) by have := HI.out; omega], by omega, HEnd.out V W9 sa9 sc9 HBV.out HO9.out HG9.out HA9.out HDD.out⟩
        case measure => simp [intOf]
  · obtain rfl : c = n := by omega
    go_wp2
    go_end0
    exact ⟨rfl, HA.out⟩
set_option maxHeartbeats 3200000 in
set_option maxRecDepth 1000000 in
theorem awaitF (bx : Nat) (sn : Nat → Option Addr) (sv : Nat → Addr) (q p n n₁ sl sc N : Nat) (sa : Option Addr) (xs : List Value) (w : World) (hn : n ≤ 512) (hd : Dr w q p sa sl sc N) (hs : w.ownsRow n₁ 70 2 (.slice sa sl sc) sl xs) (hsq : ∀ ad, sa = some ad → ad.block ≠ q) (hn1 : n₁ ≤ w.heap.size) (hsl : sl ≤ 100000)
    (hcl : ∀ W (i : Nat), i < n → w.heap.size ≤ W.heap.size → (∀ k, k < w.heap.size → k ≠ q → (∀ ad, sa = some ad → ad.block ≠ k) → W.heap[k]? = w.heap[k]?) → Calls Try.prog 34 #[.int .i64 (i : Int), .pointer (some ⟨bx, 0, none⟩)] W fun e w' => e = .returned (.agg #[.pointer (sn i), .pointer (some (sv i))]) ∧ Below W.heap.size W w') :
    Calls Try.prog 32 #[.pointer (some ⟨q, 0, none⟩), .int .i64 (n : Int), .func (.func 34) #[] #[.pointer (some ⟨bx, 0, none⟩)]] w fun e w' => e = .returned (.tuple #[]) ∧ Awaited w q p n₁ sl N sa xs sn sv n n w' := by
  have HD := hide hd
  have HS := hide hs
  have HQ := hide hsq
  have HC := hide hcl
  have HN : Hid (Awaited w q p n₁ sl N sa xs sn sv n 0 w) := ⟨sa, sc, hd, by simpa [lay] using hs, fun ad h => .inl ⟨ad, h, rfl⟩, hsq, Kp.refl _ _⟩
  clear hd hs hsq hcl
  go_enter Try.func32, Try.ntmps32
  have hsub : IntKind.i64.wrap ((n : Int) - 1) = (n : Int) - 1 := by simp only [IntKind.wrap, IntKind.bits, IntKind.signed]; simp; omega
  go_wp2
  go_loopw [6] (fun x wr => ∃ c : Nat, x = .int .i64 ((n : Int) - 1 - (c : Int)) ∧ c ≤ n ∧ Awaited w q p n₁ sl N sa xs sn sv n c wr) (fun x _ => (intOf x + 1).toNat)
  case atStart => exact ⟨0, by simp, by omega, HN.out⟩
  obtain ⟨c, rfl, hcn, hA⟩ := hrel
  have HA := hide hA
  clear hA
  by_cases hlt : c < n
  · obtain ⟨i, hi⟩ : ∃ i : Nat, n = c + 1 + i := ⟨n - c - 1, by omega⟩
    have hi' : (n : Int) - 1 - (c : Int) = (i : Int) := by omega
    rw [hi']
    obtain ⟨sa', sc', hd', hs', hor', hq', hk'⟩ := HA.out
    obtain ⟨k0, k1, k2⟩ := hd'.cells
    have HDl : Hid (q < wr.drew.heap.size) := hd'.lt
    have HCl := hide (HC.out wr.drew i (by omega) hk'.size (fun k hk hne had => hk'.block k hk (fun h => by rcases h with h | ⟨ad, h1, h2⟩; exact hne h; exact had ad h1 h2)))
    have HSl : Hid (∀ V, Below wr.drew.heap.size wr.drew V → (V.alloc (.cells #[.pointer (sn i), .pointer (some (sv i))] 70)).ownsRow n₁ 70 2 (.slice sa' (sl + c) sc') (sl + c) (xs ++ lay sn sv n c)) := fun V hb => owns_below (owns_drew hs') (hb.trans ((below_alloc V _).mono hb.size))
    have HSz : Hid (∀ V, Below wr.drew.heap.size wr.drew V → n₁ ≤ (V.alloc (.cells #[.pointer (sn i), .pointer (some (sv i))] 70)).heap.size) := fun V hb => by
      have h1 := hb.size
      have h2 : w.heap.size ≤ wr.drew.heap.size := hk'.size
      simp; omega
    have HD9 : Hid (∀ V W9, Below wr.drew.heap.size wr.drew V → (V.alloc (.cells #[.pointer (sn i), .pointer (some (sv i))] 70)).grownBy W9 (Value.slice sa' (sl + c) sc').ownBlock → Dr W9 q p sa' (sl + c) sc' N) := fun V W9 hb hg => by
      refine (hg.block q ?_ ?_).trans (((below_alloc V _).block q (Nat.lt_of_lt_of_le HDl.out hb.size)).trans ((hb.block q HDl.out).trans hd'))
      · simp; have := HDl.out; have := hb.size; omega
      · intro e
        cases sa' with
        | none => simp [Value.ownBlock] at e
        | some ad => exact hq' ad rfl (by simpa [Value.ownBlock] using e.symm)
    have HEnd := hide (fun V W9 sa9 sc9 => Awaited.step (n₁ := n₁) (xs := xs) (sn := sn) (sv := sv) (p := p) (N := N) (sa9 := sa9) (sc9 := sc9) (V := V) (W9 := W9) hi hd' hor' hq' hk')
    have HI := hide hi
    have hi63 : i ≤ 600 := by omega
    clear hd' hs' hor' hq' hk' hi hi'
    go_wp2
    refine wp_region_any (by kernel_rfl) ?_
    change wpAny _ _ _ _ _ _ _ (World.drew _)
    refine wpAny_take (i := 0) (oi := { dst := some 13, op := Op.move (Operand.tmp 0), type := 65, pos := "read.go:92", after := #[], guard := none }) (v := ?v0x1) rfl (by kernel_rfl) (by kernel_rfl) (by kernel_rfl) (fun _ _ _ h => h) (Or.inl ⟨by rfl, ?hy0x1⟩) ?rest0x1
    case hy0x1 => (intro w; (first | (go_simp; with_reducible rfl) | go_simp))
    try simp only [Act.put, List.setIfInBounds_toArray, List.set_cons_zero, List.set_cons_succ]
    refine wpAny_take (i := 1) (oi := { dst := some 14, op := Op.move (Operand.tmp 0), type := 65, pos := "read.go:92", after := #[], guard := none }) (v := ?v1x2) rfl (by kernel_rfl) (by kernel_rfl) (by kernel_rfl) (fun _ _ _ h => h) (Or.inl ⟨by rfl, ?hy1x2⟩) ?rest1x2
    case hy1x2 => (intro w; (first | (go_simp; with_reducible rfl) | go_simp))
    try simp only [Act.put, List.setIfInBounds_toArray, List.set_cons_zero, List.set_cons_succ]
    refine wpAny_take (i := 2) (oi := { dst := some 15, op := Op.nilCheck (Operand.tmp 14), type := 0, pos := "read.go:92", after := #[{ on := 1, ground := Ground.data }], guard := none }) (v := ?v2x3) rfl (by kernel_rfl) (by kernel_rfl) (by kernel_rfl) (fun _ _ _ h => h) (Or.inl ⟨by rfl, ?hy2x3⟩) ?rest2x3
    case hy2x3 => (intro w; (first | (go_simp; with_reducible rfl) | go_simp))
    try simp only [Act.put, List.setIfInBounds_toArray, List.set_cons_zero, List.set_cons_succ]
    refine wpAny_take (i := 3) (oi := { dst := some 16, op := Op.fieldAddr 51 (Operand.tmp 15) 1, type := 0, pos := "read.go:92", after := #[{ on := 2, ground := Ground.data }], guard := none }) (v := ?v3x4) rfl (by kernel_rfl) (by kernel_rfl) (by kernel_rfl) (fun _ _ _ h => h) (Or.inl ⟨by rfl, ?hy3x4⟩) ?rest3x4
    case hy3x4 => (intro w; (first | (go_simp; with_reducible rfl) | go_simp))
    try simp only [Act.put, List.setIfInBounds_toArray, List.set_cons_zero, List.set_cons_succ]
    refine wpAny_take (i := 5) (oi := { dst := some 18, op := Op.move (Operand.tmp 2), type := 78, pos := "read.go:92", after := #[], guard := none }) (v := ?v5x5) rfl (by kernel_rfl) (by kernel_rfl) (by kernel_rfl) (fun _ _ _ h => h) (Or.inl ⟨by rfl, ?hy5x5⟩) ?rest5x5
    case hy5x5 => (intro w; (first | (go_simp; with_reducible rfl) | go_simp))
    try simp only [Act.put, List.setIfInBounds_toArray, List.set_cons_zero, List.set_cons_succ]
    refine wpAny_take (i := 6) (oi := { dst := some 19, op := Op.move (Operand.tmp 6), type := 3, pos := "read.go:92", after := #[], guard := none }) (v := ?v6x6) rfl (by kernel_rfl) (by kernel_rfl) (by kernel_rfl) (fun _ _ _ h => h) (Or.inl ⟨by rfl, ?hy6x6⟩) ?rest6x6
    case hy6x6 => (intro w; (first | (go_simp; with_reducible rfl) | go_simp))
    try simp only [Act.put, List.setIfInBounds_toArray, List.set_cons_zero, List.set_cons_succ]
    refine wpAny_ready (rs := [4, 7]) (by kernel_rfl) (by simp) ?_
    refine AllReady.cons (o := { dst := some 17, op := Op.load 48 (Operand.tmp 16), type := 48, pos := "read.go:92", after := #[{ on := 3, ground := Ground.data }], guard := none }) rfl (fun K hK => ?_) (AllReady.cons (o := { dst := some 20, op := Op.call { callee := Callee.value (Operand.tmp 18), args := #[Operand.tmp 19], argTypes := #[3] }, type := 70, pos := "read.go:92", after := #[{ on := 5, ground := Ground.data }, { on := 6, ground := Ground.data }], guard := none }) rfl (fun K hK => ?_) (AllReady.nil))
    · go_simp
      refine hK _ _ ?_
      clear hK K
      try simp only [Act.put, List.setIfInBounds_toArray, List.set_cons_zero, List.set_cons_succ]
      refine wpAny_ready (rs := [7]) (by kernel_rfl) (by simp) ?_
      refine AllReady.cons (o := { dst := some 20, op := Op.call { callee := Callee.value (Operand.tmp 18), args := #[Operand.tmp 19], argTypes := #[3] }, type := 70, pos := "read.go:92", after := #[{ on := 5, ground := Ground.data }, { on := 6, ground := Ground.data }], guard := none }) rfl (fun K hK => ?_) (AllReady.nil)
      go_simp
      refine HCl.out.mono ?_
      rintro e V ⟨rfl, hbV⟩
      have HBV := hide hbV
      have v1 : V.cell? ⟨q, 1, none⟩ = some (.slice sa' (sl + c) sc') := (hbV.cell (p := ⟨q, 1, none⟩) HDl.out).trans k1
      have v2 : (V.alloc (.cells #[.pointer (sn i), .pointer (some (sv i))] 70)).cell? ⟨q, 1, none⟩ = some (.slice sa' (sl + c) sc') := ((below_alloc V _).cell (p := ⟨q, 1, none⟩) (Nat.lt_of_lt_of_le HDl.out hbV.size)).trans v1
      clear hbV
      go_simp
      refine hK _ _ ?_
      clear hK K
      try simp only [Act.put, List.setIfInBounds_toArray, List.set_cons_zero, List.set_cons_succ]
      refine wpAny_ready (rs := [8]) (by kernel_rfl) (by simp) ?_
      refine AllReady.cons (o := { dst := some 21, op := Op.buildSlice 48 1 #[(0, Operand.tmp 20)], type := 48, pos := "read.go:92", after := #[{ on := 7, ground := Ground.data }], guard := none }) rfl (fun K hK => ?_) (AllReady.nil)
      go_simp
      refine hK _ _ ?_
      clear hK K
      try simp only [Act.put, List.setIfInBounds_toArray, List.set_cons_zero, List.set_cons_succ]
      refine wpAny_ready (rs := [9]) (by kernel_rfl) (by simp) ?_
      refine AllReady.cons (o := { dst := some 22, op := Op.call { callee := Callee.builtin Builtin.append, args := #[Operand.tmp 17, Operand.tmp 21], argTypes := #[48, 48] }, type := 48, pos := "read.go:92", after := #[{ on := 4, ground := Ground.data }, { on := 8, ground := Ground.data }, { on := 7, ground := Ground.chain }], guard := none }) rfl (fun K hK => ?_) (AllReady.nil)
      refine step_slot rfl (.tmp 17) (.tmp 21) rfl n₁ _ _ _ rfl (HSl.out V HBV.out) ⟨V.heap.size, 0, none⟩ 1 rfl (.pointer (sn i)) (.pointer (some (sv i))) (cell_two_new V _ _ 70) rfl rfl (by omega) (HSz.out V HBV.out) ?_
      intro v' W9 ho9 hg9 hat9
      obtain ⟨sa9, sc9, rfl⟩ := owns_shape ho9
      have HO9 := hide ho9
      have HG9 := hide hg9
      have HA9 := hide hat9
      clear ho9 hg9 hat9
      have hd9 := HD9.out V W9 HBV.out HG9.out
      obtain ⟨d0, d1, d2⟩ := hd9.cells
      have d3 := hd9.free 1
      have HDD := hide hd9
      clear hd9
      refine hK _ _ ?_
      clear hK K
      try simp only [Act.put, List.setIfInBounds_toArray, List.set_cons_zero, List.set_cons_succ]
      refine wpAny_take (i := 10) (oi := { dst := some 23, op := Op.nilCheck (Operand.tmp 13), type := 0, pos := "read.go:92", after := #[{ on := 0, ground := Ground.data }, { on := 0, ground := Ground.phase }, { on := 1, ground := Ground.phase }, { on := 2, ground := Ground.phase }, { on := 3, ground := Ground.phase }, { on := 4, ground := Ground.phase }, { on := 5, ground := Ground.phase }, { on := 6, ground := Ground.phase }, { on := 7, ground := Ground.phase }, { on := 8, ground := Ground.phase }, { on := 9, ground := Ground.phase }], guard := none }) (v := ?v10x7) rfl (by kernel_rfl) (by kernel_rfl) (by kernel_rfl) (fun _ _ _ h => h) (Or.inl ⟨by rfl, ?hy10x7⟩) ?rest10x7
      case hy10x7 => (intro w; (first | (go_simp; with_reducible rfl) | go_simp))
      try simp only [Act.put, List.setIfInBounds_toArray, List.set_cons_zero, List.set_cons_succ]
      refine wpAny_take (i := 11) (oi := { dst := some 24, op := Op.fieldAddr 51 (Operand.tmp 23) 1, type := 0, pos := "read.go:92", after := #[{ on := 10, ground := Ground.data }, { on := 0, ground := Ground.phase }, { on := 1, ground := Ground.phase }, { on := 2, ground := Ground.phase }, { on := 3, ground := Ground.phase }, { on := 4, ground := Ground.phase }, { on := 5, ground := Ground.phase }, { on := 6, ground := Ground.phase }, { on := 7, ground := Ground.phase }, { on := 8, ground := Ground.phase }, { on := 9, ground := Ground.phase }], guard := none }) (v := ?v11x8) rfl (by kernel_rfl) (by kernel_rfl) (by kernel_rfl) (fun _ _ _ h => h) (Or.inl ⟨by rfl, ?hy11x8⟩) ?rest11x8
      case hy11x8 => (intro w; (first | (go_simp; with_reducible rfl) | go_simp))
      try simp only [Act.put, List.setIfInBounds_toArray, List.set_cons_zero, List.set_cons_succ]
      refine wpAny_ready (rs := [12]) (by kernel_rfl) (by simp) ?_
      refine AllReady.cons (o := { dst := none, op := Op.store 48 (Operand.tmp 24) (Operand.tmp 22), type := 0, pos := "read.go:92", after := #[{ on := 11, ground := Ground.data }, { on := 9, ground := Ground.data }, { on := 9, ground := Ground.chain }, { on := 0, ground := Ground.phase }, { on := 1, ground := Ground.phase }, { on := 2, ground := Ground.phase }, { on := 3, ground := Ground.phase }, { on := 4, ground := Ground.phase }, { on := 5, ground := Ground.phase }, { on := 6, ground := Ground.phase }, { on := 7, ground := Ground.phase }, { on := 8, ground := Ground.phase }, { on := 9, ground := Ground.phase }], guard := none }) rfl (fun K hK => ?_) (AllReady.nil)
      go_simp
      refine hK _ _ ?_
      clear hK K
      try simp only [Act.put, List.setIfInBounds_toArray, List.set_cons_zero, List.set_cons_succ]
      refine wpAny_done (by kernel_rfl) ?_ _
      go_wp2
      go_roundw
      case rel => exact ⟨c + 1, by rw [show (i : Int) - 1 = (n : Int) - 1 - ((c + 1 : Nat) : Int) by have := HI.out; omega], by omega, HEnd.out V W9 sa9 sc9 HBV.out HO9.out HG9.out HA9.out HDD.out⟩
      case measure => simp [intOf]
    · go_simp
      refine HCl.out.mono ?_
      rintro e V ⟨rfl, hbV⟩
      have HBV := hide hbV
      have v1 : V.cell? ⟨q, 1, none⟩ = some (.slice sa' (sl + c) sc') := (hbV.cell (p := ⟨q, 1, none⟩) HDl.out).trans k1
      have v2 : (V.alloc (.cells #[.pointer (sn i), .pointer (some (sv i))] 70)).cell? ⟨q, 1, none⟩ = some (.slice sa' (sl + c) sc') := ((below_alloc V _).cell (p := ⟨q, 1, none⟩) (Nat.lt_of_lt_of_le HDl.out hbV.size)).trans v1
      clear hbV
      go_simp
      refine hK _ _ ?_
      clear hK K
      try simp only [Act.put, List.setIfInBounds_toArray, List.set_cons_zero, List.set_cons_succ]
      refine wpAny_ready (rs := [4, 8]) (by kernel_rfl) (by simp) ?_
      refine AllReady.cons (o := { dst := some 17, op := Op.load 48 (Operand.tmp 16), type := 48, pos := "read.go:92", after := #[{ on := 3, ground := Ground.data }], guard := none }) rfl (fun K hK => ?_) (AllReady.cons (o := { dst := some 21, op := Op.buildSlice 48 1 #[(0, Operand.tmp 20)], type := 48, pos := "read.go:92", after := #[{ on := 7, ground := Ground.data }], guard := none }) rfl (fun K hK => ?_) (AllReady.nil))
      · go_simp
        refine hK _ _ ?_
        clear hK K
        try simp only [Act.put, List.setIfInBounds_toArray, List.set_cons_zero, List.set_cons_succ]
        refine wpAny_ready (rs := [8]) (by kernel_rfl) (by simp) ?_
        refine AllReady.cons (o := { dst := some 21, op := Op.buildSlice 48 1 #[(0, Operand.tmp 20)], type := 48, pos := "read.go:92", after := #[{ on := 7, ground := Ground.data }], guard := none }) rfl (fun K hK => ?_) (AllReady.nil)
        go_simp
        refine hK _ _ ?_
        clear hK K
        try simp only [Act.put, List.setIfInBounds_toArray, List.set_cons_zero, List.set_cons_succ]
        refine wpAny_ready (rs := [9]) (by kernel_rfl) (by simp) ?_
        refine AllReady.cons (o := { dst := some 22, op := Op.call { callee := Callee.builtin Builtin.append, args := #[Operand.tmp 17, Operand.tmp 21], argTypes := #[48, 48] }, type := 48, pos := "read.go:92", after := #[{ on := 4, ground := Ground.data }, { on := 8, ground := Ground.data }, { on := 7, ground := Ground.chain }], guard := none }) rfl (fun K hK => ?_) (AllReady.nil)
        refine step_slot rfl (.tmp 17) (.tmp 21) rfl n₁ _ _ _ rfl (HSl.out V HBV.out) ⟨V.heap.size, 0, none⟩ 1 rfl (.pointer (sn i)) (.pointer (some (sv i))) (cell_two_new V _ _ 70) rfl rfl (by omega) (HSz.out V HBV.out) ?_
        intro v' W9 ho9 hg9 hat9
        obtain ⟨sa9, sc9, rfl⟩ := owns_shape ho9
        have HO9 := hide ho9
        have HG9 := hide hg9
        have HA9 := hide hat9
        clear ho9 hg9 hat9
        have hd9 := HD9.out V W9 HBV.out HG9.out
        obtain ⟨d0, d1, d2⟩ := hd9.cells
        have d3 := hd9.free 1
        have HDD := hide hd9
        clear hd9
        refine hK _ _ ?_
        clear hK K
        try simp only [Act.put, List.setIfInBounds_toArray, List.set_cons_zero, List.set_cons_succ]
        refine wpAny_take (i := 10) (oi := { dst := some 23, op := Op.nilCheck (Operand.tmp 13), type := 0, pos := "read.go:92", after := #[{ on := 0, ground := Ground.data }, { on := 0, ground := Ground.phase }, { on := 1, ground := Ground.phase }, { on := 2, ground := Ground.phase }, { on := 3, ground := Ground.phase }, { on := 4, ground := Ground.phase }, { on := 5, ground := Ground.phase }, { on := 6, ground := Ground.phase }, { on := 7, ground := Ground.phase }, { on := 8, ground := Ground.phase }, { on := 9, ground := Ground.phase }], guard := none }) (v := ?v10x9) rfl (by kernel_rfl) (by kernel_rfl) (by kernel_rfl) (fun _ _ _ h => h) (Or.inl ⟨by rfl, ?hy10x9⟩) ?rest10x9
        case hy10x9 => (intro w; (first | (go_simp; with_reducible rfl) | go_simp))
        try simp only [Act.put, List.setIfInBounds_toArray, List.set_cons_zero, List.set_cons_succ]
        refine wpAny_take (i := 11) (oi := { dst := some 24, op := Op.fieldAddr 51 (Operand.tmp 23) 1, type := 0, pos := "read.go:92", after := #[{ on := 10, ground := Ground.data }, { on := 0, ground := Ground.phase }, { on := 1, ground := Ground.phase }, { on := 2, ground := Ground.phase }, { on := 3, ground := Ground.phase }, { on := 4, ground := Ground.phase }, { on := 5, ground := Ground.phase }, { on := 6, ground := Ground.phase }, { on := 7, ground := Ground.phase }, { on := 8, ground := Ground.phase }, { on := 9, ground := Ground.phase }], guard := none }) (v := ?v11x10) rfl (by kernel_rfl) (by kernel_rfl) (by kernel_rfl) (fun _ _ _ h => h) (Or.inl ⟨by rfl, ?hy11x10⟩) ?rest11x10
        case hy11x10 => (intro w; (first | (go_simp; with_reducible rfl) | go_simp))
        try simp only [Act.put, List.setIfInBounds_toArray, List.set_cons_zero, List.set_cons_succ]
        refine wpAny_ready (rs := [12]) (by kernel_rfl) (by simp) ?_
        refine AllReady.cons (o := { dst := none, op := Op.store 48 (Operand.tmp 24) (Operand.tmp 22), type := 0, pos := "read.go:92", after := #[{ on := 11, ground := Ground.data }, { on := 9, ground := Ground.data }, { on := 9, ground := Ground.chain }, { on := 0, ground := Ground.phase }, { on := 1, ground := Ground.phase }, { on := 2, ground := Ground.phase }, { on := 3, ground := Ground.phase }, { on := 4, ground := Ground.phase }, { on := 5, ground := Ground.phase }, { on := 6, ground := Ground.phase }, { on := 7, ground := Ground.phase }, { on := 8, ground := Ground.phase }, { on := 9, ground := Ground.phase }], guard := none }) rfl (fun K hK => ?_) (AllReady.nil)
        go_simp
        refine hK _ _ ?_
        clear hK K
        try simp only [Act.put, List.setIfInBounds_toArray, List.set_cons_zero, List.set_cons_succ]
        refine wpAny_done (by kernel_rfl) ?_ _
        go_wp2
        go_roundw
        case rel => exact ⟨c + 1, by rw [show (i : Int) - 1 = (n : Int) - 1 - ((c + 1 : Nat) : Int) by have := HI.out; omega], by omega, HEnd.out V W9 sa9 sc9 HBV.out HO9.out HG9.out HA9.out HDD.out⟩
        case measure => simp [intOf]
      · go_simp
        refine hK _ _ ?_
        clear hK K
        try simp only [Act.put, List.setIfInBounds_toArray, List.set_cons_zero, List.set_cons_succ]
        refine wpAny_ready (rs := [4]) (by kernel_rfl) (by simp) ?_
        refine AllReady.cons (o := { dst := some 17, op := Op.load 48 (Operand.tmp 16), type := 48, pos := "read.go:92", after := #[{ on := 3, ground := Ground.data }], guard := none }) rfl (fun K hK => ?_) (AllReady.nil)
        go_simp
        refine hK _ _ ?_
        clear hK K
        try simp only [Act.put, List.setIfInBounds_toArray, List.set_cons_zero, List.set_cons_succ]
        refine wpAny_ready (rs := [9]) (by kernel_rfl) (by simp) ?_
        refine AllReady.cons (o := { dst := some 22, op := Op.call { callee := Callee.builtin Builtin.append, args := #[Operand.tmp 17, Operand.tmp 21], argTypes := #[48, 48] }, type := 48, pos := "read.go:92", after := #[{ on := 4, ground := Ground.data }, { on := 8, ground := Ground.data }, { on := 7, ground := Ground.chain }], guard := none }) rfl (fun K hK => ?_) (AllReady.nil)
        refine step_slot rfl (.tmp 17) (.tmp 21) rfl n₁ _ _ _ rfl (HSl.out V HBV.out) ⟨V.heap.size, 0, none⟩ 1 rfl (.pointer (sn i)) (.pointer (some (sv i))) (cell_two_new V _ _ 70) rfl rfl (by omega) (HSz.out V HBV.out) ?_
        intro v' W9 ho9 hg9 hat9
        obtain ⟨sa9, sc9, rfl⟩ := owns_shape ho9
        have HO9 := hide ho9
        have HG9 := hide hg9
        have HA9 := hide hat9
        clear ho9 hg9 hat9
        have hd9 := HD9.out V W9 HBV.out HG9.out
        obtain ⟨d0, d1, d2⟩ := hd9.cells
        have d3 := hd9.free 1
        have HDD := hide hd9
        clear hd9
        refine hK _ _ ?_
        clear hK K
        try simp only [Act.put, List.setIfInBounds_toArray, List.set_cons_zero, List.set_cons_succ]
        refine wpAny_take (i := 10) (oi := { dst := some 23, op := Op.nilCheck (Operand.tmp 13), type := 0, pos := "read.go:92", after := #[{ on := 0, ground := Ground.data }, { on := 0, ground := Ground.phase }, { on := 1, ground := Ground.phase }, { on := 2, ground := Ground.phase }, { on := 3, ground := Ground.phase }, { on := 4, ground := Ground.phase }, { on := 5, ground := Ground.phase }, { on := 6, ground := Ground.phase }, { on := 7, ground := Ground.phase }, { on := 8, ground := Ground.phase }, { on := 9, ground := Ground.phase }], guard := none }) (v := ?v10x11) rfl (by kernel_rfl) (by kernel_rfl) (by kernel_rfl) (fun _ _ _ h => h) (Or.inl ⟨by rfl, ?hy10x11⟩) ?rest10x11
        case hy10x11 => (intro w; (first | (go_simp; with_reducible rfl) | go_simp))
        try simp only [Act.put, List.setIfInBounds_toArray, List.set_cons_zero, List.set_cons_succ]
        refine wpAny_take (i := 11) (oi := { dst := some 24, op := Op.fieldAddr 51 (Operand.tmp 23) 1, type := 0, pos := "read.go:92", after := #[{ on := 10, ground := Ground.data }, { on := 0, ground := Ground.phase }, { on := 1, ground := Ground.phase }, { on := 2, ground := Ground.phase }, { on := 3, ground := Ground.phase }, { on := 4, ground := Ground.phase }, { on := 5, ground := Ground.phase }, { on := 6, ground := Ground.phase }, { on := 7, ground := Ground.phase }, { on := 8, ground := Ground.phase }, { on := 9, ground := Ground.phase }], guard := none }) (v := ?v11x12) rfl (by kernel_rfl) (by kernel_rfl) (by kernel_rfl) (fun _ _ _ h => h) (Or.inl ⟨by rfl, ?hy11x12⟩) ?rest11x12
        case hy11x12 => (intro w; (first | (go_simp; with_reducible rfl) | go_simp))
        try simp only [Act.put, List.setIfInBounds_toArray, List.set_cons_zero, List.set_cons_succ]
        refine wpAny_ready (rs := [12]) (by kernel_rfl) (by simp) ?_
        refine AllReady.cons (o := { dst := none, op := Op.store 48 (Operand.tmp 24) (Operand.tmp 22), type := 0, pos := "read.go:92", after := #[{ on := 11, ground := Ground.data }, { on := 9, ground := Ground.data }, { on := 9, ground := Ground.chain }, { on := 0, ground := Ground.phase }, { on := 1, ground := Ground.phase }, { on := 2, ground := Ground.phase }, { on := 3, ground := Ground.phase }, { on := 4, ground := Ground.phase }, { on := 5, ground := Ground.phase }, { on := 6, ground := Ground.phase }, { on := 7, ground := Ground.phase }, { on := 8, ground := Ground.phase }, { on := 9, ground := Ground.phase }], guard := none }) rfl (fun K hK => ?_) (AllReady.nil)
        go_simp
        refine hK _ _ ?_
        clear hK K
        try simp only [Act.put, List.setIfInBounds_toArray, List.set_cons_zero, List.set_cons_succ]
        refine wpAny_done (by kernel_rfl) ?_ _
        go_wp2
        go_roundw
        case rel => exact ⟨c + 1, by rw [show (i : Int) - 1 = (n : Int) - 1 - ((c + 1 : Nat) : Int) by have := HI.out; omega], by omega, HEnd.out V W9 sa9 sc9 HBV.out HO9.out HG9.out HA9.out HDD.out⟩
        case measure => simp [intOf]
  · obtain rfl : c = n := by omega
    go_wp2
    go_end0
    exact ⟨rfl, HA.out⟩
end Go.Proofs.Ytehapglbenaikaa
