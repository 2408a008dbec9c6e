/- Sync and Cut, of the document's own disk. -/
import Derived.Test.YtlmofgfkclfgeaaGreatXF
import Derived.Deep.RegionHeld3
namespace Go.Proofs.YtlmofgfkclfgeaaGreat
open Go.RowKit Go.Maps
set_option linter.unusedVariables false
variable {w w' : World} {p f : Nat} {vl vc : Value} {Ls Cs : List Value} {S S' : DS}

theorem RD.sl_other (h : RD w p vl Ls vc Cs f S) {g : Nat} (hg : vl.ownBlock = some g) {v : Value} {zs : List Int} (hs : Sl w v zs) : v.ownBlock ≠ some g := fun e => by
  obtain ⟨c1, g1, h1⟩ := row_type h.las hg
  obtain ⟨c2, g2, h2⟩ := hs.type e
  rw [h1] at h2
  simp at h2
theorem RD.row_other (h : RD w p vl Ls vc Cs f S) {g : Nat} (hg : vl.ownBlock = some g) : p ≠ g ∧ f ≠ g ∧ vc.ownBlock ≠ some g := by
  obtain ⟨c1, g1, h1⟩ := row_type h.las hg
  refine ⟨fun e => ?_, fun e => ?_, fun e => ?_⟩
  · rw [← e, h.blk] at h1; simp at h1
  · rw [← e, h.fau] at h1; simp at h1
  · obtain ⟨c2, g2, h2⟩ := row_type h.cac e
    rw [h1] at h2; simp at h2
theorem DS.Good.put (h : S.Good) (n : Nat) (zs : List Int) (hz : zs.length = 128) (hb : Byts zs) : (S.las (S.ls.set n zs)).Good :=
  ⟨fun s hs => by
    rcases List.mem_or_eq_of_mem_set hs with hs | rfl
    · exact h.ls s hs
    · exact ⟨hz, hb⟩, fun x hx => ⟨by show x.1 < (S.ls.set n zs).length; rw [List.length_set]; exact (h.ws x hx).1, (h.ws x hx).2⟩, by show (S.ls.set n zs).length ≤ _; rw [List.length_set]; exact h.most, h.few, h.t, h.f1, h.f2, h.f3, h.n1, h.n2, h.n3⟩
/-- a sector's row is laid into the table. -/
theorem RD.put (h : RD w p vl Ls vc Cs f S) {g N cap : Nat} (hvl : vl = .slice (some ⟨g, 0, none⟩) N cap) (n : Nat) (v : Value) (zs : List Int) (hv : Sl w v zs) (hz : zs.length = 128) (hb : Byts zs) :
    RD (w.setCell ⟨g, n, none⟩ v) p vl (Ls.set n v) vc Cs f (S.las (S.ls.set n zs)) ∧ Mv (fun k => vl.ownBlock = some k) w (w.setCell ⟨g, n, none⟩ v) := by
  have hg : vl.ownBlock = some g := by rw [hvl]; rfl
  obtain ⟨o1, o2, o3⟩ := h.row_other hg
  have hot : ∀ k, k ≠ g → (w.setCell ⟨g, n, none⟩ v).heap[k]? = w.heap[k]? := fun k hk => heap_setCell_other w ⟨g, n, none⟩ k v hk
  have hsz : (w.setCell ⟨g, n, none⟩ v).heap.size = w.heap.size := by simp
  have hkeep : ∀ u ys, Sl w u ys → Sl (w.setCell ⟨g, n, none⟩ v) u ys := fun u ys hs => hs.stays (fun k hk hl => hot k (fun e => h.sl_other hg hs (e ▸ hk))) (by omega)
  have hN : N = S.ls.length := by
    obtain ⟨a, c, e⟩ := row_len h.las
    rw [hvl] at e
    injection e with _ e2
  have hst := World.ownsRow.stored (by have := h.las; rw [hvl, ← hN] at this; exact this) n v
  refine ⟨⟨(hot p o1).trans h.blk, ?_, ?_, ?_, row_keep h.cac (fun k hk => hot k (fun e => o3 (e ▸ hk))), h.cle, fun i x u g1 g2 => hkeep u _ (h.csl i x u g1 g2), (hot f o2).trans h.fau, h.good.put n zs hz hb⟩, ?_⟩
  · show World.ownsRow _ 0 22 1 vl (S.ls.set n zs).length _
    rw [List.length_set, ← hN, hvl]
    exact hst.1
  · show (Ls.set n v).length = (S.ls.set n zs).length
    rw [List.length_set, List.length_set]; exact h.lle
  · intro i ys u g1 g2
    have g1' : (S.ls.set n zs)[i]? = some ys := g1
    rw [List.getElem?_set] at g1' g2
    by_cases e : n = i
    · rw [if_pos e] at g1' g2
      split at g1'
      · split at g2
        · cases g1'; cases g2; exact hkeep _ _ hv
        · simp at g2
      · simp at g1'
    · rw [if_neg e] at g1' g2
      exact hkeep _ _ (h.lsl i ys u g1' g2)
  · exact ⟨rfl, rfl, rfl, by omega, fun k hk hn => hot k (fun e => hn (by rw [hg, e]))⟩
/-- the cache is emptied, and other fields may turn. -/
theorem RD.clear (h : RD w p vl Ls vc Cs f S) (h1 : S'.ls = S.ls) (h2 : S'.ws = []) (hg : S'.Good) (f' : Nat) (hm : Mv (fun k => k = p ∨ k = f) w w') (hbp : w'.heap[p]? = some (.cells (rcells vl (.slice none 0 0) f' S') 79 (0, 0))) (hbf : w'.heap[f']? = some (.cells (fcells S') 3 (0, 0))) :
    RD w' p vl Ls (.slice none 0 0) [] f' S' := by
  refine ⟨hbp, ?_, by rw [h1]; exact h.lle, fun i zs v g1 g2 => ?_, by rw [h2]; exact World.ownsRow_nil _ _ _ _, by rw [h2]; rfl, fun i x v g1 g2 => by simp at g2, hbf, hg⟩
  · rw [h1]
    refine row_keep h.las (fun k hk => hm.block k (h.las.lt k hk).2 (fun hx => ?_))
    obtain ⟨o1, o2, o3⟩ := h.row_other hk
    rcases hx with rfl | rfl
    · exact o1 rfl
    · exact o2 rfl
  · rw [h1] at g1
    have hs := h.lsl i zs v g1 g2
    refine hs.stays (fun k hk hl => hm.block k hl (fun hx => ?_)) hm.size
    obtain ⟨c2, g2, h2⟩ := hs.type hk
    rcases hx with rfl | rfl
    · rw [h.blk] at h2; simp at h2
    · rw [h.fau] at h2; simp at h2
/-- the state between two rounds of the loop that settles the cache. -/
structure Stl (w wr : World) (p : Nat) (vl : Value) (Ls : List Value) (vc : Value) (Cs : List Value) (f : Nat) (S : DS) (t : Nat → Bool) (k : Nat) : Prop where
  at' : ∃ Lt, RD wr p vl Lt vc Cs f (S.las (settled S.ls S.ws t k)) ∧ ∀ v ∈ Lt, v ∈ Ls ∨ v ∈ Cs
  mv : Mv (fun k => vl.ownBlock = some k) w wr
theorem Stl.start (t : Nat → Bool) (h : RD w p vl Ls vc Cs f S) : Stl w w p vl Ls vc Cs f S t 0 := ⟨⟨Ls, h, fun v hv => .inl hv⟩, Mv.refl _ _⟩
theorem RD.drew (h : RD w p vl Ls vc Cs f S) : RD w.drew p vl Ls vc Cs f S := h.below (Below.refl _ _).drew
theorem Stl.drew {t : Nat → Bool} {wr : World} {k : Nat} (h : Stl w wr p vl Ls vc Cs f S t k) : Stl w wr.drew p vl Ls vc Cs f S t k := by
  obtain ⟨Lt, hr, hm⟩ := h.at'
  exact ⟨⟨Lt, hr.drew, hm⟩, h.mv.on (Below.refl _ _).drew⟩
theorem Stl.skip {t : Nat → Bool} {wr : World} {k : Nat} (h : Stl w wr p vl Ls vc Cs f S t k) (ht : t k = false) : Stl w wr p vl Ls vc Cs f S t (k + 1) := by
  refine ⟨?_, h.mv⟩
  rw [settled, if_neg (by rw [ht]; simp)]
  exact h.at'
theorem Stl.take {t : Nat → Bool} {wr : World} {k : Nat} (h : Stl w wr p vl Ls vc Cs f S t k) (ht : t k = true) {g N cap : Nat} (hvl : vl = .slice (some ⟨g, 0, none⟩) N cap) (x : Nat × List Int) (v : Value) (hx : S.ws[k]? = some x) (hv : Cs[k]? = some v) (hz : x.2.length = 128) (hb : Byts x.2) : Stl w (wr.setCell ⟨g, x.1, none⟩ v) p vl Ls vc Cs f S t (k + 1) := by
  obtain ⟨Lt, hr, hm⟩ := h.at'
  have hp := hr.put hvl x.1 v x.2 (hr.csl k x v hx hv) hz hb
  refine ⟨⟨Lt.set x.1 v, ?_, fun u hu => ?_⟩, h.mv.trans' hp.2⟩
  · rw [settled, if_pos ht, List.getD_eq_getElem?_getD, hx]
    exact hp.1
  · rcases List.mem_or_eq_of_mem_set hu with hu | rfl
    · exact hm u hu
    · exact .inr (List.mem_of_getElem? hv)
end Go.Proofs.YtlmofgfkclfgeaaGreat
/- Cut, of the document's own disk. -/
namespace Go.Proofs.YtlmofgfkclfgeaaGreat
open Go.RowKit Go.Maps
set_option linter.unusedVariables false
variable {w w' : World} {p f : Nat} {vl vc : Value} {Ls Cs : List Value} {S S' : DS}

theorem Stl.at_ {wa wr : World} {t : Nat → Bool} {k N M lc cc : Nat} {la ca : Option Addr} (hst : Stl wa wr p vl Ls vc Cs f S t k) (hk : k < S.ws.length) (hg : S.Good) (hcl : Cs.length = S.ws.length) (hvl : vl = .slice la N lc) (hvc : vc = .slice ca M cc) :
    ∃ b g n va vn vp, la = some ⟨g, 0, none⟩ ∧ ca = some ⟨b, 0, none⟩ ∧ wr.cell? ⟨b, k * 2, none⟩ = some (.int .i64 ((n : Nat) : Int)) ∧ wr.cell? ⟨b, k * 2 + 1, none⟩ = some (.slice va vn vp) ∧ n < S.ls.length ∧ (∃ u, wr.cell? ⟨g, n, none⟩ = some u) ∧ wr.frozen? ⟨g, n, none⟩ = false ∧ (t k = true → Stl wa (wr.setCell ⟨g, n, none⟩ (.slice va vn vp)) p vl Ls vc Cs f S t (k + 1)) := by
  obtain ⟨Lt, hr, -⟩ := hst.at'
  have hx := List.getElem?_eq_getElem hk
  have hC : k < Cs.length := by rw [hcl]; exact hk
  have hv := List.getElem?_eq_getElem hC
  have hxg := hg.ws _ (List.mem_of_getElem? hx)
  obtain ⟨b, cap', e1, -, -, -, HR, -⟩ := row_at hr.cac (by show 0 < S.ws.length; omega)
  have ha := rwc_at S.ws Cs k _ _ hx hv
  have hln : (settled S.ls S.ws t k).length = S.ls.length := settled_len _ _ _ _
  obtain ⟨g, cap2, e2, -, -, -, HL, HF⟩ := row_at hr.las (by show 0 < (settled S.ls S.ws t k).length; omega)
  have hLt : S.ws[k].1 < Lt.length := by rw [hr.lle]; show _ < (settled S.ls S.ws t k).length; rw [hln]; exact hxg.1
  have e2' := e2
  rw [hvc] at e1
  rw [hvl] at e2
  injection e1 with e1
  injection e2 with e2
  obtain ⟨va, vp, ev, -⟩ := (hr.csl k _ _ hx hv).shape
  rw [ev] at hv ha
  exact ⟨b, g, S.ws[k].1, va, _, vp, e2, e1, HR.out _ _ ha.1, HR.out _ _ ha.2, hxg.1, ⟨_, HL.out _ _ (List.getElem?_eq_getElem hLt)⟩, HF.out _, fun ht => hst.take ht e2' _ _ hx hv hxg.2.1 hxg.2.2⟩
theorem brow_mv {O : Nat → Prop} {a : Option Addr} {bs : List Bool} (h : BRow w a bs) (hm : Mv O w w') (ho : bs ≠ [] → ∀ ad, a = some ad → ¬ O ad.block) : BRow w' a bs := by
  rcases h with h0 | ⟨b, off, rfl, hlt, hc⟩
  · exact .inl h0
  · by_cases h0 : bs = []
    · exact .inl h0
    · exact .inr ⟨b, off, rfl, Nat.lt_of_lt_of_le hlt hm.size, fun i hi => (World.cell?_of_block (a := ⟨b, off + i, none⟩) (hm.block b hlt (ho h0 _ rfl))).trans (hc i hi)⟩
end Go.Proofs.YtlmofgfkclfgeaaGreat
/- Write, of the document's own disk. -/
namespace Go.Proofs.YtlmofgfkclfgeaaGreat
open Go.RowKit Go.Maps
set_option linter.unusedVariables false
variable {w w' : World} {p f : Nat} {vl vc : Value} {Ls Cs : List Value} {S S' : DS}

theorem step_append_at {P : Program} {ops : Array Oper} {w : World} {o : Oper} {a : Act} {K : Act → World → Prop} {Q : Exit → Act → World → Prop} {E : Prop} (hgd : o.guard = none) (s x : Operand) (t e : TypeId) (ho : o.op = .call { callee := .builtin .append, args := #[s, x], argTypes := #[t, t] })
    (base : Nat) (i : TypeInfo) (z : Value) (size bytes : Nat) (ht : P.underlying t = some (.slice e)) (hi : P.info? e = some i) (hz : i.zero = some z) (hsize : i.size = size) (hby : i.bytes = bytes) (hzs : z.cells.size = size) (hsz : 0 < size)
    (v : Value) (n : Nat) (xs : List Value) (hs : a.eval s = v) (hown : w.ownsRow base e size v n xs) (ad : Addr) (m c : Nat) (news : List Value) (hx : a.eval x = .slice (some ad) m c) (hl : news.length = m * size) (hnews : ∀ j u, news[j]? = some u → w.cell? (ad.add j) = some u) (h1 : ∀ u ∈ news, u.oneCell' = true)
    (h63 : n + m ≤ maxLen) (hbytes : (n + m) * bytes ≤ 140737488355328) (hbase : base ≤ w.heap.size)
    (h : ∀ v' w', w'.ownsRow base e size v' (n + m) (xs ++ news) → w.grownBy w' v.ownBlock → (v'.ownBlock = v.ownBlock ∨ v'.ownBlock = some w.heap.size) → K (a.put o.dst v') w') :
    if Region.wanted o (yielded ops a.tmps) = true then Oper.wp P o a w K Q else E := by
  have hw : Region.wanted o (yielded ops a.tmps) = true := by simp [Region.wanted, hgd]
  rw [if_pos hw]
  exact wp_append_at s x t e ho base i z size bytes ht hi hz hsize hby hzs hsz v n xs hs hown ad m c news hx hl hnews h1 h63 hbytes hbase h
theorem RD.cac_other (h : RD w p vl Ls vc Cs f S) {g : Nat} (hg : vc.ownBlock = some g) : p ≠ g ∧ f ≠ g ∧ vl.ownBlock ≠ some g := by
  obtain ⟨c1, g1, h1⟩ := row_type h.cac hg
  refine ⟨fun e => ?_, fun e => ?_, fun e => ?_⟩
  · rw [← e, h.blk] at h1; simp at h1
  · rw [← e, h.fau] at h1; simp at h1
  · obtain ⟨c2, g2, h2⟩ := row_type h.las e
    rw [h1] at h2; simp at h2
theorem RD.sl_cac (h : RD w p vl Ls vc Cs f S) {g : Nat} (hg : vc.ownBlock = some g) {v : Value} {zs : List Int} (hs : Sl w v zs) : v.ownBlock ≠ some g := fun e => by
  obtain ⟨c1, g1, h1⟩ := row_type h.cac hg
  obtain ⟨c2, g2, h2⟩ := hs.type e
  rw [h1] at h2
  simp at h2
/-- a write more in the cache. -/
theorem RD.push (h : RD w p vl Ls vc Cs f S) (n : Nat) (ys : List Int) (hn : n < S.ls.length) (hy : ys.length = 128) (hb : Byts ys) (hf : S.ws.length + 1 ≤ 1000000) (v vc' : Value) (W5 w7 : World) (h5 : Below w.heap.size w W5) (hv : Sl W5 v ys) (hnv : ∀ g, v.ownBlock = some g → w.heap.size ≤ g)
    (ho : w7.ownsRow 0 223 2 vc' (S.ws.length + 1) (rwc S.ws Cs ++ [.int .i64 (n : Int), v])) (hg : (W5.alloc (.cells #[.int .i64 (n : Int), v] 223)).grownBy w7 vc.ownBlock) (hl : vc'.ownBlock = vc.ownBlock ∨ vc'.ownBlock = some (W5.alloc (.cells #[.int .i64 (n : Int), v] 223)).heap.size) :
    RD (w7.setCell ⟨p, 1, none⟩ vc') p vl Ls vc' (Cs ++ [v]) f (S.add n ys) ∧ Mv (fun k => k = p ∨ vc.ownBlock = some k) w (w7.setCell ⟨p, 1, none⟩ vc') ∧ (∀ g, vc'.ownBlock = some g → vc.ownBlock = some g ∨ w.heap.size ≤ g) := by
  have hb6 : Below w.heap.size w (W5.alloc (.cells #[.int .i64 (n : Int), v] 223)) := h5.trans ((below_alloc W5 _).mono h5.size)
  have hm7 : Mv (fun k => vc.ownBlock = some k) w w7 := ⟨hg.os.trans hb6.os, hg.tape.trans hb6.tape, hg.output.trans hb6.output, Nat.le_trans hb6.size hg.size, fun k hk hn => (hg.block k (Nat.lt_of_lt_of_le hk hb6.size) (fun e => hn e.symm)).trans (hb6.block k hk)⟩
  have hm8 : Mv (fun k => k = p ∨ vc.ownBlock = some k) w (w7.setCell ⟨p, 1, none⟩ vc') := (hm7.mono' fun k hk => .inr hk).trans' ((sets_mv p [(1, vc')] w7).mono' fun k hk => .inl hk)
  have hot : ∀ k, k ≠ p → (w7.setCell ⟨p, 1, none⟩ vc').heap[k]? = w7.heap[k]? := fun k hk => heap_setCell_other w7 ⟨p, 1, none⟩ k vc' hk
  have hkeep : ∀ u zs, Sl w u zs → Sl (w7.setCell ⟨p, 1, none⟩ vc') u zs := fun u zs hs => hs.stays (fun k hk hlt => hm8.block k hlt (fun hx => by
    rcases hx with rfl | hx
    · obtain ⟨c2, g2, h2⟩ := hs.type hk
      rw [h.blk] at h2; simp at h2
    · exact h.sl_cac hx hs hk)) hm8.size
  have hpb : w7.heap[p]? = some (.cells (rcells vl vc f S) 79 (0, 0)) := (hm7.block p (h.lt p (.inl rfl)) (fun hx => (h.cac_other hx).1 rfl)).trans h.blk
  have hlt := h.lt
  have hs6 : W5.heap.size < (W5.alloc (.cells #[.int .i64 (n : Int), v] 223)).heap.size := by rw [size_al]; omega
  refine ⟨⟨?_, ?_, h.lle, fun i zs u g1 g2 => hkeep u zs (h.lsl i zs u g1 g2), ?_, by simp [DS.add, h.cle], ?_, ?_, ?_⟩, hm8, ?_⟩
  · have := sets_blk p 79 [(1, vc')] w7 _ hpb
    refine this.trans ?_
    simp [rcells, DS.add]
  · refine row_keep h.las (fun k hk => hm8.block k (hlt k (.inr (.inl hk))) (fun hx => ?_))
    rcases hx with rfl | hx
    · exact (h.row_other hk).1 rfl
    · exact (h.cac_other hx).2.2 hk
  · show World.ownsRow _ 0 223 2 vc' (S.ws ++ [(n, ys)]).length (rwc (S.ws ++ [(n, ys)]) (Cs ++ [v]))
    rw [rwc_snoc S.ws Cs (n, ys) v h.cle.symm, List.length_append, List.length_singleton]
    refine row_keep ho (fun k hk => hot k (fun e => ?_))
    rcases hl with hl | hl
    · exact (h.cac_other (hl ▸ hk)).1 e.symm
    · rw [hl] at hk
      cases hk
      have := h.lt p (.inl rfl)
      have := h5.size
      omega
  · intro i x u g1 g2
    have g1' : (S.ws ++ [(n, ys)])[i]? = some x := g1
    by_cases hi : i < S.ws.length
    · rw [List.getElem?_append_left hi] at g1'
      rw [List.getElem?_append_left (by rw [h.cle]; exact hi)] at g2
      exact hkeep u _ (h.csl i x u g1' g2)
    · rw [List.getElem?_append_right (by omega)] at g1'
      rw [List.getElem?_append_right (by rw [h.cle]; omega), h.cle] at g2
      have e0 : i - S.ws.length = 0 := by
        have := (List.getElem?_eq_some_iff.1 g1').1
        simp at this
        omega
      rw [e0] at g1' g2
      cases g1'
      cases g2
      have h6 : Sl (W5.alloc (.cells #[.int .i64 (n : Int), v] 223)) v ys := hv.stays (fun k hk hlt => (below_alloc W5 _).block k hlt) (by omega)
      refine h6.stays (fun k hk hlt => ?_) (by have := hg.size; simp; omega)
      have hkb := hnv k hk
      rw [hot k (fun e => by have := h.lt p (.inl rfl); omega)]
      exact hg.block k hlt (fun e => by have := h.lt k (.inr (.inr (.inl e.symm))); omega)
  · exact (hm8.block f (h.lt f (.inr (.inr (.inr rfl)))) (fun hx => by
      rcases hx with hx | hx
      · exact h.pf hx.symm
      · exact (h.cac_other hx).2.1 rfl)).trans h.fau
  · exact h.good.add n ys hn hy hb hf
  · intro g hg'
    rcases hl with hl | hl
    · exact .inl (hl ▸ hg')
    · rw [hl] at hg'
      cases hg'
      exact .inr (Nat.le_trans h5.size (Nat.le_of_lt hs6))
end Go.Proofs.YtlmofgfkclfgeaaGreat
/- Write, of the document's own disk: bytes of a page or of a sector. -/
namespace Go.Proofs.YtlmofgfkclfgeaaGreat
open Go.RowKit Go.Maps
set_option linter.unusedVariables false
variable {w w' : World} {p f : Nat} {vl vc : Value} {Ls Cs : List Value} {S S' : DS}

theorem Row.within {w : World} {b off : Nat} {zs : List Int} (h : Row w (some ⟨b, off, none⟩) zs) (i k : Nat) (hk : i + k ≤ zs.length) (hi : 0 < zs.length) : Row w (some ⟨b, off + i, none⟩) ((zs.drop i).take k) := by
  rcases h with h0 | ⟨b', off', h1, hlt, h2⟩
  · rw [h0] at hi; simp at hi
  · cases h1
    refine .inr ⟨b, off + i, rfl, hlt, fun j hj => ?_⟩
    rw [List.length_take, List.length_drop] at hj
    have h3 := h2 (i + j) (by omega)
    rw [Nat.add_assoc, h3]
    simp [show j < k by omega]
/-- the state between two rounds: so many sectors are in the cache. -/
structure Wst (w wr : World) (p : Nat) (vl : Value) (Ls : List Value) (vc : Value) (Cs : List Value) (f : Nat) (S : DS) (vc' : Value) (Cs' : List Value) : Prop where
  rd : RD wr p vl Ls vc' Cs' f S
  mv : Mv (fun k => k = p ∨ vc.ownBlock = some k) w wr
  vb : ∀ g, vc'.ownBlock = some g → vc.ownBlock = some g ∨ w.heap.size ≤ g
  cb : ∀ v ∈ Cs', v ∈ Cs ∨ ∀ g, v.ownBlock = some g → w.heap.size ≤ g
theorem Wst.start (h : RD w p vl Ls vc Cs f S) : Wst w w p vl Ls vc Cs f S vc Cs := ⟨h, Mv.refl _ _, fun g hg => .inl hg, fun v hv => .inl hv⟩
theorem Wst.push {wr : World} {vc' : Value} {Cs' : List Value} (h : Wst w wr p vl Ls vc Cs f S vc' Cs') (n : Nat) (ys : List Int) (hn : n < S.ls.length) (hy : ys.length = 128) (hb : Byts ys) (hf : S.ws.length + 1 ≤ 1000000) (v vd : Value) (W5 w7 : World) (h5 : Below wr.heap.size wr W5) (hv : Sl W5 v ys) (hnv : ∀ g, v.ownBlock = some g → wr.heap.size ≤ g)
    (ho : w7.ownsRow 0 223 2 vd (S.ws.length + 1) (rwc S.ws Cs' ++ [.int .i64 (n : Int), v])) (hg : (W5.alloc (.cells #[.int .i64 (n : Int), v] 223)).grownBy w7 vc'.ownBlock) (hl : vd.ownBlock = vc'.ownBlock ∨ vd.ownBlock = some (W5.alloc (.cells #[.int .i64 (n : Int), v] 223)).heap.size) :
    Wst w (w7.setCell ⟨p, 1, none⟩ vd) p vl Ls vc Cs f (S.add n ys) vd (Cs' ++ [v]) := by
  obtain ⟨h1, h2, h3⟩ := h.rd.push n ys hn hy hb hf v vd W5 w7 h5 hv hnv ho hg hl
  refine ⟨h1, ⟨h2.os.trans h.mv.os, h2.tape.trans h.mv.tape, h2.output.trans h.mv.output, Nat.le_trans h.mv.size h2.size, fun k hk hno => ?_⟩, fun g hg' => ?_, fun u hu => ?_⟩
  · rw [h2.block k (Nat.lt_of_lt_of_le hk h.mv.size) (fun hx => ?_)]
    · exact h.mv.block k hk hno
    · rcases hx with hx | hx
      · exact hno (.inl hx)
      · exact (h.vb k hx).elim (fun e => hno (.inr e)) (fun e => by omega)
  · exact (h3 g hg').elim (fun e => h.vb g e) (fun e => .inr (Nat.le_trans h.mv.size e))
  · rw [List.mem_append, List.mem_singleton] at hu
    rcases hu with hu | rfl
    · exact h.cb u hu
    · exact .inr (fun g hg' => Nat.le_trans h.mv.size (hnv g hg'))
theorem info146 : (Tryz.prog.info? 223).map (fun i => (i.zero, i.size, i.bytes)) = some (some (.agg #[.int .i64 0, .slice none 0 0]), 2, 32) := by kernel_rfl
theorem build146 (n : Int) (a : Option Addr) (l c : Nat) (W : World) : (Instr.build 223 #[(0, .int .i64 n), (1, .slice a l c)]).run Tryz.prog W = .ok (.agg #[.int .i64 n, .slice a l c]) W := run_build W 223 _ _ (by kernel_rfl)
end Go.Proofs.YtlmofgfkclfgeaaGreat
/- New, of the document's own disk. -/
namespace Go.Proofs.YtlmofgfkclfgeaaGreat
open Go.RowKit Go.Maps
set_option linter.unusedVariables false

theorem info63 : (Tryz.prog.info? 22).map (fun i => (i.zero, i.size, i.bytes)) = some (some (.slice none 0 0), 1, 24) := by kernel_rfl
/-- a disk of these sectors, nothing in its cache. -/
def DS.of (ls : List (List Int)) : DS := ⟨ls, [], false, false, 0, false, 0, false, 0, false, 0, 0, 0, 0⟩
theorem rbuild100 (a : Option Addr) (l c : Nat) (b : Option Addr) (l2 c2 : Nat) (W : World) : (Instr.build 79 #[(0, .slice a l c), (3, .int .i64 (-1)), (4, .slice b l2 c2)]).run Tryz.prog W = .ok (.agg #[.slice a l c, .slice none 0 0, .bool false, .int .i64 (-1), .slice b l2 c2, .int .i64 0, .int .i64 0, .int .i64 0]) W := run_build W 79 _ _ (by kernel_rfl)
set_option maxHeartbeats 800000 in
set_option maxRecDepth 1000000 in
theorem rmade_any (a : Option Addr) (l c : Nat) (w : World) : Calls Tryz.prog 21 #[.slice a l c] w fun e w' => ∃ p f, e = .returned (.pointer (some ⟨p, 0, none⟩)) ∧ w.heap.size ≤ p ∧ w.heap.size ≤ f ∧ w'.heap[p]? = some (.cells #[.slice a l c, .slice none 0 0, .bool false, .int .i64 (-1), .slice (some ⟨f, 0, none⟩) 4 4, .int .i64 0, .int .i64 0, .int .i64 0] 79 (0, 0)) ∧ w'.heap[f]? = some (.cells #[.int .i64 (-1), .int .i64 (-1), .int .i64 (-1), .int .i64 (-1)] 3 (0, 0)) ∧ Below w.heap.size w w' := by
  have hbd := rbuild100
  go_enter Tryz.func21, Tryz.ntmps21
  go_wp2
  go_ret
  refine ⟨w.heap.size + 1, w.heap.size, rfl, by omega, Nat.le_refl _, ?_, ?_, (below_alloc w _).trans ((below_alloc _ _).mono (by rw [size_al]; omega))⟩
  · have := heap_alloc_new (w.alloc (.cells #[.int .i64 (-1), .int .i64 (-1), .int .i64 (-1), .int .i64 (-1)] 3)) (.cells #[.slice a l c, .slice none 0 0, .bool false, .int .i64 (-1), .slice (some ⟨w.heap.size, 0, none⟩) 4 4, .int .i64 0, .int .i64 0, .int .i64 0] 79)
    rw [size_al] at this
    exact this
  · rw [Below.heap_alloc _ _ w.heap.size (by rw [size_al]; omega)]
    exact heap_alloc_new w _
theorem make128 (W : World) : (Instr.makeSlice 22 (.int .i64 128) (.int .i64 128)).run Tryz.prog W = .ok (.slice (some ⟨W.heap.size, 0, none⟩) 128 128) (W.alloc (.cells (madeCells #[.int .u8 0] 128) 5)) := by
  obtain ⟨i0, hi, hz0, hz1, hz2⟩ := info_parts Tryz.info5
  have := run_make (P := Tryz.prog) W 22 5 i0 _ Tryz.underlying22 hi hz0 .i64 .i64 128 128 (by omega) (by omega) (by rw [hz2]; omega) (by omega)
  rw [hz1] at this
  simpa [Value.cells] using this
theorem own_zeros (W : World) : Own (W.alloc (.cells (madeCells #[.int .u8 0] 128) 5)) (.slice (some ⟨W.heap.size, 0, none⟩) 128 128) (List.replicate 128 0) := by
  have := World.ownsRow_lit (base := 0) (e := 5) (size := 1) W (madeCells #[.int .u8 0] 128) 128 (Nat.zero_le _) (by decide) (by rw [size_madeCells])
  rw [toList_madeCells_one] at this
  unfold Own
  rw [List.length_replicate, List.map_replicate]
  exact this
/-- a table of k sectors of noughts. -/
structure Tbl (w wr : World) (v : Value) (k : Nat) (Ls : List Value) : Prop where
  row : wr.ownsRow 0 22 1 v k Ls
  sl : ∀ u ∈ Ls, Sl wr u (List.replicate 128 0) ∧ ∀ g, u.ownBlock = some g → w.heap.size ≤ g
  vb : ∀ g, v.ownBlock = some g → w.heap.size ≤ g
  be : Below w.heap.size w wr
theorem Tbl.more {w wr w7 : World} {v v' : Value} {k : Nat} {Ls : List Value} (h : Tbl w wr v k Ls)
    (ho : w7.ownsRow 0 22 1 v' (k + 1) (Ls ++ [.slice (some ⟨wr.heap.size, 0, none⟩) 128 128]))
    (hg : ((wr.alloc (.cells (madeCells #[.int .u8 0] 128) 5)).alloc (.cells #[.slice (some ⟨wr.heap.size, 0, none⟩) 128 128] 22)).grownBy w7 v.ownBlock)
    (hl : v'.ownBlock = v.ownBlock ∨ v'.ownBlock = some ((wr.alloc (.cells (madeCells #[.int .u8 0] 128) 5)).alloc (.cells #[.slice (some ⟨wr.heap.size, 0, none⟩) 128 128] 22)).heap.size) :
    Tbl w w7 v' (k + 1) (Ls ++ [.slice (some ⟨wr.heap.size, 0, none⟩) 128 128]) := by
  have s1 : (wr.alloc (.cells (madeCells #[.int .u8 0] 128) 5)).heap.size = wr.heap.size + 1 := size_al _ _
  have s2 : ((wr.alloc (.cells (madeCells #[.int .u8 0] 128) 5)).alloc (.cells #[.slice (some ⟨wr.heap.size, 0, none⟩) 128 128] 22)).heap.size = wr.heap.size + 2 := by rw [size_al, s1]
  have b1 := below_alloc wr (.cells (madeCells #[.int .u8 0] 128) 5)
  have b2 := below_alloc (wr.alloc (.cells (madeCells #[.int .u8 0] 128) 5)) (.cells #[.slice (some ⟨wr.heap.size, 0, none⟩) 128 128] 22)
  have b3 := b1.trans (b2.mono b1.size)
  have hsz := h.be.size
  have hvl : ∀ g, v.ownBlock = some g → g < wr.heap.size := fun g hv => (h.row.lt g hv).2
  refine ⟨ho, fun u hu => ?_, fun g hv => ?_, ⟨hg.os.trans (b3.os.trans h.be.os), hg.tape.trans (b3.tape.trans h.be.tape), hg.output.trans (b3.output.trans h.be.output), Nat.le_trans hsz (Nat.le_trans b3.size hg.size), fun j hj => ?_⟩⟩
  · rw [List.mem_append, List.mem_singleton] at hu
    rcases hu with hu | rfl
    · refine ⟨(h.sl u hu).1.stays (fun j hj hlt => ?_) (Nat.le_trans b3.size hg.size), (h.sl u hu).2⟩
      rw [hg.block j (by omega) (fun e => ?_), b3.block j hlt]
      obtain ⟨c1, g1, h1⟩ := row_type h.row e.symm
      obtain ⟨c2, g2, h2⟩ := (h.sl u hu).1.type hj
      rw [h1] at h2; simp at h2
    · have hz : Sl (wr.alloc (.cells (madeCells #[.int .u8 0] 128) 5)) (.slice (some ⟨wr.heap.size, 0, none⟩) 128 128) (List.replicate 128 0) := own_zeros wr
      refine ⟨hz.stays (fun j hj hlt => ?_) (Nat.le_trans b2.size hg.size), fun g hv => by simp [Value.ownBlock] at hv; omega⟩
      have hj' : j = wr.heap.size := by simp [Value.ownBlock] at hj; omega
      rw [hg.block j (by omega) (fun e => by have := hvl j e.symm; omega), b2.block j hlt]
  · rcases hl with e | e
    · exact h.vb g (e ▸ hv)
    · rw [e, s2] at hv; cases hv; omega
  · rw [hg.block j (by omega) (fun e => by have := h.vb j e.symm; omega), b3.block j (by omega)]
    exact h.be.block j hj
end Go.Proofs.YtlmofgfkclfgeaaGreat
