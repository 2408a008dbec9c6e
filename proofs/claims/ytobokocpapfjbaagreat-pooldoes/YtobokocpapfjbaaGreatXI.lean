/- Write, of the document's own disk. -/
import Derived.Test.YtobokocpapfjbaaGreatXH
namespace Go.Proofs.YtobokocpapfjbaaGreat
open Go.RowKit Go.Maps
set_option linter.unusedVariables false
variable {w w' : World} {p f : Nat} {vl vc : Value} {Ls Cs : List Value} {S S' : DS}

set_option maxHeartbeats 1600000 in
set_option maxRecDepth 1000000 in
theorem rwrite_er (h : RD w p vl Ls vc Cs f S) (pg : Int) (bv : Value) (hn : S.n2 + 1 ≤ 1000000) (he : S.er S.s2 S.l2 ≠ 0) :
    Calls Tryz.prog 9 #[.pointer (some ⟨p, 0, none⟩), .int .i64 pg, bv] w fun e w' => e = .returned (.int .u16 (S.er S.s2 S.l2 : Int)) ∧ RD w' p vl Ls vc Cs f (S.be S.op2) ∧ Mv (fun k => k = p ∨ k = f) w w' := by
  have HB := hide (begins2 h hn)
  obtain ⟨r, HR⟩ : ∃ r, Hid (r = S.er S.s2 S.l2) := ⟨_, rfl⟩
  rw [← HR.out] at HB he ⊢
  have he' : ((r : Int) == 0) = false := by simp; omega
  clear h hn he
  go_enter Tryz.func9, Tryz.ntmps9
  go_wp2_with fail
  refine HB.out.mono ?_
  rintro e w' ⟨rfl, hh⟩
  have HH := hide hh
  clear hh
  go_wp2
  go_ret
  exact ⟨rfl, HH.out⟩
set_option maxHeartbeats 1600000 in
set_option maxRecDepth 1000000 in
theorem rwrite_range (h : RD w p vl Ls vc Cs f S) (pg : Int) (bv : Value) (hn : S.n2 + 1 ≤ 1000000) (he : S.er S.s2 S.l2 = 0) (hbad : ¬ (0 ≤ pg ∧ pg < ((S.ls.length / 8 : Nat) : Int))) :
    Calls Tryz.prog 9 #[.pointer (some ⟨p, 0, none⟩), .int .i64 pg, bv] w fun e w' => e = .returned (.int .u16 2) ∧ RD w' p vl Ls vc Cs f (S.be S.op2) ∧ Mv (fun k => k = p ∨ k = f) w w' := by
  have HB := hide (begins2 h hn)
  rw [he] at HB
  have HL : Hid ((S.be S.op2).ls = S.ls) := by rw [be_zero he]; rfl
  clear h hn he
  by_cases h0 : pg < 0
  · have hd0 : decide (pg < 0) = true := by simp [h0]
    clear hbad h0
    go_enter Tryz.func9, Tryz.ntmps9
    go_wp2_with fail
    refine HB.out.mono ?_
    rintro e w' ⟨rfl, hh⟩
    have HH := hide hh
    clear hh
    go_wp2
    go_ret
    exact ⟨rfl, HH.out⟩
  · have hd0 : decide (pg < 0) = false := by simp [h0]
    obtain ⟨N, HN⟩ : ∃ N, Hid (N = S.ls.length / 8) := ⟨_, rfl⟩
    have hd1 : decide ((N : Int) ≤ pg) = true := by rw [HN.out]; simp; omega
    clear hbad h0
    go_enter Tryz.func9, Tryz.ntmps9
    go_wp2_with fail
    refine HB.out.mono ?_
    rintro e w' ⟨rfl, hh⟩
    have HH := hide hh
    have HP := hide (rpages_any hh.1)
    rw [HL.out, ← HN.out] at HP
    clear hh
    go_wp2_with fail
    refine HP.out.mono ?_
    rintro e w'' ⟨rfl, rfl⟩
    go_wp2
    go_ret
    exact ⟨rfl, HH.out⟩
set_option maxHeartbeats 1600000 in
set_option maxRecDepth 1000000 in
theorem rwrite_arg (h : RD w p vl Ls vc Cs f S) (pg : Nat) (a : Option Addr) (len cap : Nat) (hn : S.n2 + 1 ≤ 1000000) (he : S.er S.s2 S.l2 = 0) (hpg : pg < S.ls.length / 8) (h1 : len ≠ 1024) (h2 : len ≠ 128) :
    Calls Tryz.prog 9 #[.pointer (some ⟨p, 0, none⟩), .int .i64 (pg : Int), .slice a len cap] w fun e w' => e = .returned (.int .u16 1) ∧ RD w' p vl Ls vc Cs f (S.be S.op2) ∧ Mv (fun k => k = p ∨ k = f) w w' := by
  have HB := hide (begins2 h hn)
  rw [he] at HB
  have HL : Hid ((S.be S.op2).ls = S.ls) := by rw [be_zero he]; rfl
  obtain ⟨N, HN⟩ : ∃ N, Hid (N = S.ls.length / 8) := ⟨_, rfl⟩
  have hd0 : decide ((pg : Int) < 0) = false := by simp
  have hpN : pg < N := by rw [HN.out]; exact hpg
  have hd1 : decide (N ≤ pg) = false := by simp; omega
  have e1 : ((len : Int) != 1024) = true := by simp; omega
  have e2 : ((len : Int) != 128) = true := by simp; omega
  clear h hn he hpg h1 h2
  go_enter Tryz.func9, Tryz.ntmps9
  go_wp2_with fail
  refine HB.out.mono ?_
  rintro e w' ⟨rfl, hh⟩
  have HH := hide hh
  have HP := hide (rpages_any hh.1)
  rw [HL.out, ← HN.out] at HP
  clear hh
  go_wp2_with fail
  refine HP.out.mono ?_
  rintro e w'' ⟨rfl, rfl⟩
  go_wp2
  go_ret
  exact ⟨rfl, HH.out⟩
theorem step_append_at {P : Program} {ops : Array Oper} {w : World} {o : Oper} {a : Act} {K : Act → World → Prop} {Q : Exit → Act → World → Prop} {E : Prop} (hgd : o.guard = none) (s x : Operand) (t e : TypeId) (ho : o.op = .call { callee := .builtin .append, args := #[s, x], argTypes := #[t, t] })
    (base : Nat) (i : TypeInfo) (z : Value) (size bytes : Nat) (ht : P.underlying t = some (.slice e)) (hi : P.info? e = some i) (hz : i.zero = some z) (hsize : i.size = size) (hby : i.bytes = bytes) (hzs : z.cells.size = size) (hsz : 0 < size)
    (v : Value) (n : Nat) (xs : List Value) (hs : a.eval s = v) (hown : w.ownsRow base e size v n xs) (ad : Addr) (m c : Nat) (news : List Value) (hx : a.eval x = .slice (some ad) m c) (hl : news.length = m * size) (hnews : ∀ j u, news[j]? = some u → w.cell? (ad.add j) = some u) (h1 : ∀ u ∈ news, u.oneCell' = true)
    (h63 : n + m ≤ maxLen) (hbytes : (n + m) * bytes ≤ 140737488355328) (hbase : base ≤ w.heap.size)
    (h : ∀ v' w', w'.ownsRow base e size v' (n + m) (xs ++ news) → w.grownBy w' v.ownBlock → (v'.ownBlock = v.ownBlock ∨ v'.ownBlock = some w.heap.size) → K (a.put o.dst v') w') :
    if Region.wanted o (yielded ops a.tmps) = true then Oper.wp P o a w K Q else E := by
  have hw : Region.wanted o (yielded ops a.tmps) = true := by simp [Region.wanted, hgd]
  rw [if_pos hw]
  exact wp_append_at s x t e ho base i z size bytes ht hi hz hsize hby hzs hsz v n xs hs hown ad m c news hx hl hnews h1 h63 hbytes hbase h
theorem RD.cac_other (h : RD w p vl Ls vc Cs f S) {g : Nat} (hg : vc.ownBlock = some g) : p ≠ g ∧ f ≠ g ∧ vl.ownBlock ≠ some g := by
  obtain ⟨c1, g1, h1⟩ := row_type h.cac hg
  refine ⟨fun e => ?_, fun e => ?_, fun e => ?_⟩
  · rw [← e, h.blk] at h1; simp at h1
  · rw [← e, h.fau] at h1; simp at h1
  · obtain ⟨c2, g2, h2⟩ := row_type h.las e
    rw [h1] at h2; simp at h2
theorem RD.sl_cac (h : RD w p vl Ls vc Cs f S) {g : Nat} (hg : vc.ownBlock = some g) {v : Value} {zs : List Int} (hs : Sl w v zs) : v.ownBlock ≠ some g := fun e => by
  obtain ⟨c1, g1, h1⟩ := row_type h.cac hg
  obtain ⟨c2, g2, h2⟩ := hs.type e
  rw [h1] at h2
  simp at h2
/-- a write more in the cache. -/
theorem RD.push (h : RD w p vl Ls vc Cs f S) (n : Nat) (ys : List Int) (hn : n < S.ls.length) (hy : ys.length = 128) (hb : Byts ys) (hf : S.ws.length + 1 ≤ 1000000) (v vc' : Value) (W5 w7 : World) (h5 : Below w.heap.size w W5) (hv : Sl W5 v ys) (hnv : ∀ g, v.ownBlock = some g → w.heap.size ≤ g)
    (ho : w7.ownsRow 0 118 2 vc' (S.ws.length + 1) (rwc S.ws Cs ++ [.int .i64 (n : Int), v])) (hg : (W5.alloc (.cells #[.int .i64 (n : Int), v] 118)).grownBy w7 vc.ownBlock) (hl : vc'.ownBlock = vc.ownBlock ∨ vc'.ownBlock = some (W5.alloc (.cells #[.int .i64 (n : Int), v] 118)).heap.size) :
    RD (w7.setCell ⟨p, 1, none⟩ vc') p vl Ls vc' (Cs ++ [v]) f (S.add n ys) ∧ Mv (fun k => k = p ∨ vc.ownBlock = some k) w (w7.setCell ⟨p, 1, none⟩ vc') ∧ (∀ g, vc'.ownBlock = some g → vc.ownBlock = some g ∨ w.heap.size ≤ g) := by
  have hb6 : Below w.heap.size w (W5.alloc (.cells #[.int .i64 (n : Int), v] 118)) := h5.trans ((below_alloc W5 _).mono h5.size)
  have hm7 : Mv (fun k => vc.ownBlock = some k) w w7 := ⟨hg.os.trans hb6.os, hg.tape.trans hb6.tape, hg.output.trans hb6.output, Nat.le_trans hb6.size hg.size, fun k hk hn => (hg.block k (Nat.lt_of_lt_of_le hk hb6.size) (fun e => hn e.symm)).trans (hb6.block k hk)⟩
  have hm8 : Mv (fun k => k = p ∨ vc.ownBlock = some k) w (w7.setCell ⟨p, 1, none⟩ vc') := (hm7.mono' fun k hk => .inr hk).trans' ((sets_mv p [(1, vc')] w7).mono' fun k hk => .inl hk)
  have hot : ∀ k, k ≠ p → (w7.setCell ⟨p, 1, none⟩ vc').heap[k]? = w7.heap[k]? := fun k hk => heap_setCell_other w7 ⟨p, 1, none⟩ k vc' hk
  have hkeep : ∀ u zs, Sl w u zs → Sl (w7.setCell ⟨p, 1, none⟩ vc') u zs := fun u zs hs => hs.stays (fun k hk hlt => hm8.block k hlt (fun hx => by
    rcases hx with rfl | hx
    · obtain ⟨c2, g2, h2⟩ := hs.type hk
      rw [h.blk] at h2; simp at h2
    · exact h.sl_cac hx hs hk)) hm8.size
  have hpb : w7.heap[p]? = some (.cells (rcells vl vc f S) 88 (0, 0)) := (hm7.block p (h.lt p (.inl rfl)) (fun hx => (h.cac_other hx).1 rfl)).trans h.blk
  have hlt := h.lt
  have hs6 : W5.heap.size < (W5.alloc (.cells #[.int .i64 (n : Int), v] 118)).heap.size := by rw [size_al]; omega
  refine ⟨⟨?_, ?_, h.lle, fun i zs u g1 g2 => hkeep u zs (h.lsl i zs u g1 g2), ?_, by simp [DS.add, h.cle], ?_, ?_, ?_⟩, hm8, ?_⟩
  · have := sets_blk p 88 [(1, vc')] w7 _ hpb
    refine this.trans ?_
    simp [rcells, DS.add]
  · refine row_keep h.las (fun k hk => hm8.block k (hlt k (.inr (.inl hk))) (fun hx => ?_))
    rcases hx with rfl | hx
    · exact (h.row_other hk).1 rfl
    · exact (h.cac_other hx).2.2 hk
  · show World.ownsRow _ 0 118 2 vc' (S.ws ++ [(n, ys)]).length (rwc (S.ws ++ [(n, ys)]) (Cs ++ [v]))
    rw [rwc_snoc S.ws Cs (n, ys) v h.cle.symm, List.length_append, List.length_singleton]
    refine row_keep ho (fun k hk => hot k (fun e => ?_))
    rcases hl with hl | hl
    · exact (h.cac_other (hl ▸ hk)).1 e.symm
    · rw [hl] at hk
      cases hk
      have := h.lt p (.inl rfl)
      have := h5.size
      omega
  · intro i x u g1 g2
    have g1' : (S.ws ++ [(n, ys)])[i]? = some x := g1
    by_cases hi : i < S.ws.length
    · rw [List.getElem?_append_left hi] at g1'
      rw [List.getElem?_append_left (by rw [h.cle]; exact hi)] at g2
      exact hkeep u _ (h.csl i x u g1' g2)
    · rw [List.getElem?_append_right (by omega)] at g1'
      rw [List.getElem?_append_right (by rw [h.cle]; omega), h.cle] at g2
      have e0 : i - S.ws.length = 0 := by
        have := (List.getElem?_eq_some_iff.1 g1').1
        simp at this
        omega
      rw [e0] at g1' g2
      cases g1'
      cases g2
      have h6 : Sl (W5.alloc (.cells #[.int .i64 (n : Int), v] 118)) v ys := hv.stays (fun k hk hlt => (below_alloc W5 _).block k hlt) (by omega)
      refine h6.stays (fun k hk hlt => ?_) (by have := hg.size; simp; omega)
      have hkb := hnv k hk
      rw [hot k (fun e => by have := h.lt p (.inl rfl); omega)]
      exact hg.block k hlt (fun e => by have := h.lt k (.inr (.inr (.inl e.symm))); omega)
  · exact (hm8.block f (h.lt f (.inr (.inr (.inr rfl)))) (fun hx => by
      rcases hx with hx | hx
      · exact h.pf hx.symm
      · exact (h.cac_other hx).2.1 rfl)).trans h.fau
  · exact h.good.add n ys hn hy hb hf
  · intro g hg'
    rcases hl with hl | hl
    · exact .inl (hl ▸ hg')
    · rw [hl] at hg'
      cases hg'
      exact .inr (Nat.le_trans h5.size (Nat.le_of_lt hs6))
end Go.Proofs.YtobokocpapfjbaaGreat
