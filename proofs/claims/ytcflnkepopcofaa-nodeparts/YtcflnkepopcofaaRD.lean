/- The reader: a leaf of small values that was written. -/
import Derived.Test.YtcflnkepopcofaaRC
namespace Go.Proofs.Ytcflnkepopcofaa
open Go.RowKit
set_option linter.unusedVariables false

/-- one more entry, laid behind the others, by a call that turns the block p. -/
theorem Cl.snoc2 {B C : Nat} {w1 w' : World} {v v' : Value} {ys : List En} {y : En} (h1 : Cl B w1 v ys) (hC : ∀ k, (v.ownBlock = some k ∨ ∃ z ∈ ys, z.has k) → k < C) (hBC : B ≤ C) (hy : y.Own C w1) (hg : w1.grownBy w' v.ownBlock) (hr : w'.ownsRow B 28 4 v' (ys.length + 1) (rowc ys ++ y.cells)) : Cl B w' v' (ys ++ [y]) := by
  have stay : ∀ z k, (z ∈ ys ∨ z = y) → z.has k → w'.heap[k]? = w1.heap[k]? := by
    intro z k hz hk
    rcases hz with hz | rfl
    · exact hg.block k ((h1.each z hz).lt hk) (fun e => h1.apart2 hz hk e.symm)
    · refine hg.block k (hy.lt hk) (fun e => ?_)
      have h3 := hC k (.inl e.symm)
      have h4 := hy.ge hk
      omega
  refine ⟨by rw [List.length_append, List.length_singleton, rowc_app, rowc_one]; exact hr, fun z hz => ?_, fun i j yi yj k hi hj hki hkj => ?_⟩
  · rcases List.mem_append.1 hz with hz | hz
    · exact (h1.each z hz).of_block fun k hk => stay z k (.inl hz) hk
    · simp at hz; subst hz
      exact (hy.mono hBC).of_block fun k hk => stay z k (.inr rfl) hk
  · have old : ∀ (i : Nat) (z : En), (ys ++ [y])[i]? = some z → (i < ys.length ∧ ys[i]? = some z) ∨ (i = ys.length ∧ z = y) := by
      intro i z hz
      by_cases hlt : i < ys.length
      · rw [List.getElem?_append_left hlt] at hz; exact .inl ⟨hlt, hz⟩
      · rw [List.getElem?_append_right (by omega)] at hz
        obtain ⟨h0, h1⟩ := List.getElem?_eq_some_iff.1 hz
        simp at h0
        refine .inr ⟨by omega, ?_⟩
        simpa using h1.symm
    rcases old i yi hi with ⟨_, a1⟩ | ⟨a0, rfl⟩ <;> rcases old j yj hj with ⟨_, b1⟩ | ⟨b0, e⟩
    · exact h1.apart i j yi yj k a1 b1 hki hkj
    · subst e
      have q1 := hC k (.inr ⟨yi, List.mem_of_getElem? a1, hki⟩)
      have q2 := hy.ge hkj
      omega
    · have q1 := hC k (.inr ⟨yj, List.mem_of_getElem? b1, hkj⟩)
      have q2 := hy.ge hki
      omega
    · omega
theorem step_append_own {P : Program} {ops : Array Oper} (w : World) {o : Oper} {a : Act} {K : Act → World → Prop} {Q : Exit → Act → World → Prop} {E : Prop} (hgd : o.guard = none) (s x : Operand) (t : TypeId)
    (ho : o.op = .call { callee := .builtin .append, args := #[s, x], argTypes := #[t, t] })
    (base : Nat) (e : TypeId) (i : TypeInfo) (z : Value) (size bytes : Nat) (ht : P.underlying t = some (.slice e)) (hi : P.info? e = some i) (hz : i.zero = some z)
    (hsize : i.size = size) (hby : i.bytes = bytes) (hzs : z.cells.size = size) (hsz : 0 < size)
    (v : Value) (n : Nat) (xs : List Value) (hs : a.eval s = v) (hown : w.ownsRow base e size v n xs)
    (ad : Addr) (m c : Nat) (news : List Value) (hx : a.eval x = .slice (some ad) m c) (hl : news.length = m * size) (hnews : ∀ j u, news[j]? = some u → w.cell? (ad.add j) = some u) (h1 : ∀ u ∈ news, u.oneCell' = true)
    (h63 : n + m ≤ maxLen) (hbytes : (n + m) * bytes ≤ 140737488355328) (hbase : base ≤ w.heap.size)
    (h : ∀ v' w', w'.ownsRow base e size v' (n + m) (xs ++ news) → w.grownBy w' v.ownBlock → (v' = .slice none 0 0 ↔ v = .slice none 0 0 ∧ m = 0) → K (a.put o.dst v') w') :
    if Region.wanted o (yielded ops a.tmps) = true then Oper.wp P o a w K Q else E := by
  have hw : Region.wanted o (yielded ops a.tmps) = true := by simp [Region.wanted, hgd]
  rw [if_pos hw]
  exact wp_append_own w s x t ho base e i z size bytes ht hi hz hsize hby hzs hsz v n xs hs hown ad m c news hx hl hnews h1 h63 hbytes hbase h
theorem one_below1 {w W : World} {q j : Nat} {v : Value} (hq : w.cell? ⟨q, j, none⟩ = some v) (hb : Below w.heap.size w W) : W.cell? ⟨q, j, none⟩ = some v := (hb.cell (p := ⟨q, j, none⟩) (World.block_lt_of_cell? w _ hq)).trans hq
/-- an entry is laid behind a list of the call's own: the run of the append. -/
theorem append_cl {i0 : TypeInfo} (hi : Try.prog.info? 28 = some i0) (hz0 : i0.zero = some (.agg #[.slice none 0 0, .slice none 0 0, .int .u32 0, .int .u32 0])) (hz1 : i0.size = 4) (hz2 : i0.bytes = 56)
    {B C q : Nat} {w3 : World} {a3 : Option Addr} {c3 : Nat} {ys : List En} {y : En} {nb : Array Value} {nC : Nat} (hcl : Cl B (w3.alloc (.cells #[.slice y.ka y.e.key.length y.kc, .slice y.va y.e.val.length y.vc, .int .u32 (y.e.page : Int), .int .u32 (y.e.size : Int)] 28)) (.slice a3 ys.length c3) ys) (hyl : ys.length ≤ 1000000) (hs : C ≤ w3.heap.size) (hBC : B ≤ C)
    (hup : ∀ j, ((Value.slice a3 ys.length c3).ownBlock = some j ∨ ∃ z ∈ ys, z.has j) → j < C) (hy : y.Own C w3) (hx : w3.heap[q]? = some (.cells nb 24 (0, 0))) :
    ∃ a4 n4 c4 w4, (Builtin.append_ #[22, 22] 22 #[.slice a3 ys.length c3, .slice (some ⟨w3.heap.size, 0, none⟩) 1 1]).run Try.prog (w3.alloc (.cells #[.slice y.ka y.e.key.length y.kc, .slice y.va y.e.val.length y.vc, .int .u32 (y.e.page : Int), .int .u32 (y.e.size : Int)] 28)) = .ok (.slice a4 n4 c4) w4 ∧ Cl B w4 (.slice a4 n4 c4) (ys ++ [y]) ∧ n4 = ys.length + 1 ∧ w4.heap[q]? = some (.cells nb 24 (0, 0)) ∧ (∀ k, k < w3.heap.size → (Value.slice a3 ys.length c3).ownBlock ≠ some k → w4.heap[k]? = w3.heap[k]?) ∧ w3.heap.size ≤ w4.heap.size ∧ w4.os = w3.os ∧ w4.tape = w3.tape ∧ w4.output = w3.output := by
  obtain ⟨v', w4, hrun, hown, hg, _⟩ := run_append_own (P := Try.prog) (w3.alloc (.cells #[.slice y.ka y.e.key.length y.kc, .slice y.va y.e.val.length y.vc, .int .u32 (y.e.page : Int), .int .u32 (y.e.size : Int)] 28)) B 22 22 28 i0 _ 4 56 Try.underlying22 hi hz0 hz1 hz2 (by rfl) (by omega) (.slice a3 ys.length c3) ys.length (rowc ys) hcl.row ⟨w3.heap.size, 0, none⟩ 1 1 y.cells (by rfl) (box_news w3 y) (cells_one y) (by unfold maxLen; omega) (by omega) (by simp; omega)
  have hC4 := hcl.snoc2 (y := y) hup hBC (hy.below (below_alloc w3 _)) hg hown
  obtain ⟨a4, c4, rfl, -⟩ := hC4.ens
  have hxa := (Below.heap_alloc w3 (.cells #[.slice y.ka y.e.key.length y.kc, .slice y.va y.e.val.length y.vc, .int .u32 (y.e.page : Int), .int .u32 (y.e.size : Int)] 28) _ (lt_of_block hx)).trans hx
  refine ⟨a4, _, c4, w4, hrun, hC4, by simp, (hg.block _ (lt_of_block hxa) (fun e => (hcl.noNode hxa).1 e.symm)).trans hxa, fun k hk hne => (hg.block k (by simp; omega) (fun e => hne e.symm)).trans (Below.heap_alloc w3 _ k hk), by have := hg.size; simp at this; omega, hg.os, hg.tape, hg.output⟩
/-- a leaf's entry with a small value. -/
def Ee.Sm (e : Ee) : Prop := e.page = 0 ∧ e.size = 0 ∧ e.key.length < 256 ∧ e.val.length < 255 ∧ Byts e.key ∧ Byts e.val
theorem Sm_enc (e : Ee) (h : e.Sm) : e.enc true = ((e.key.length : Int) :: e.key) ++ ((e.val.length : Int) :: e.val) := by rw [enc_leaf, Ee.tail, if_pos h.1]; simp
theorem encs_cons (leaf : Bool) (e : Ee) (es : List Ee) : encs leaf (e :: es) = e.enc leaf ++ encs leaf es := by simp [encs]
set_option maxHeartbeats 3200000 in
set_option maxRecDepth 1000000 in
theorem rnode_small (p : Nat) (es : List Ee) (w : World) (hs : ∀ e ∈ es, e.Sm) (hc : chk true es = 0) (hw : wts es ≤ 1000000) (hn : es.length < 65536) (h : Rdr w p (nenc true es)) :
    Calls Try.prog 38 #[.pointer (some ⟨p, 0, none⟩), .int .u8 1] w fun e w' => ∃ v ys, e = .returned (.agg #[.bool true, v]) ∧ ers ys = es ∧ Cl w.heap.size w' v ys ∧ w.grownBy w' (some p) := by
  obtain ⟨i0, hi, hz0, hz1, hz2⟩ := info_parts Try.infoE
  obtain ⟨hB, hb0, hb1, hs1⟩ := pair_boxes w (.bool false) (.slice none 0 0) (.bool true) (.slice none 0 0)
  have hpw := h.lt
  have HN := hide (num_ok p 2 (Crc.le 2 es.length) (encs true es) _ (Crc.le_length _ _) (by omega) (h.below hB) (Crc.le_b8 _ _))
  rw [Crc.leV_le 2 es.length (by omega)] at HN
  have HB := hide hB
  have HB0 := hide hb0
  have HB1 := hide hb1
  have HS1 := hide hs1
  have HSm := hide hs
  clear h hB hb0 hb1 hs1 hs
  go_enter Try.func38, Try.ntmps38
  go_wp2_with (go_at_call 58; refine (must_yes _ _ rfl _).mono ?_; rintro e w' ⟨rfl, rfl⟩)
  generalize (w.alloc (.cells #[.bool false, .slice none 0 0] 24)).alloc (.cells #[.bool true, .slice none 0 0] 24) = w1 at *
  refine HN.out.mono ?_
  rintro e w2 ⟨rfl, hrd, hg⟩
  have HG := hide hg
  have HRd := hide hrd
  clear hrd hg HN
  have hw2 : w.heap.size + 2 ≤ w2.heap.size := by have := HG.out.size; have := HS1.out; omega
  have HKb0 : Hid (Kb w.heap.size p w w2) := hide ((Kb.of_below HB.out (Nat.le_refl _)).trans (Kb.of_grown HG.out HB.out.size))
  have HX0 := hide ((HG.out.block _ (lt_of_block HB0.out) (by simp; omega)).trans HB0.out)
  have HX1 := hide ((HG.out.block _ (lt_of_block HB1.out) (by simp; omega)).trans HB1.out)
  go_wp2
  go_loopw [19] (fun i wr => ∃ (k : Nat) (ys : List En) (a3 : Option Addr) (c3 : Nat), k ≤ es.length ∧ i = .int .u32 (k : Int) ∧ ers ys = es.take k ∧ wr.heap[w.heap.size]? = some (.cells #[.bool false, .slice none 0 0] 24 (0, 0)) ∧ wr.heap[w.heap.size + 1]? = some (.cells #[.bool true, .slice a3 ys.length c3] 24 (0, 0)) ∧ Cl (w.heap.size + 2) wr (.slice a3 ys.length c3) ys ∧ Rdr wr p (encs true (es.drop k)) ∧ Kb w.heap.size p w wr ∧ w.heap.size + 2 ≤ wr.heap.size) (fun i _ => es.length - (intOf i).toNat)
  case atStart => exact ⟨0, [], none, 0, Nat.zero_le _, rfl, by simp [ers], HX0.out, HX1.out, ⟨⟨rfl, .inl ⟨rfl, rfl⟩⟩, (by intro y hy; simp at hy), (by intro i j yi yj k hi; simp at hi)⟩, by simpa using HRd.out, HKb0.out, hw2⟩
  case round =>
    obtain ⟨k, ys, a3, c3, hk, rfl, her, hx0, hx1, hcl, hrd, hkb, hsz⟩ := hrel
    obtain ⟨f0, f1, ff0⟩ := cells_two hx1
    have ff1 := frozen_blk (j := 1) hx1
    have HEr := hide her
    have HX0 := hide hx0
    have HX1 := hide hx1
    have HCl := hide hcl
    have HRd := hide hrd
    have HKb := hide hkb
    clear her hx0 hx1 hcl hrd hkb
    by_cases hlt : k < es.length
    · obtain ⟨x, hx⟩ : ∃ x, es[k]? = some x := ⟨_, List.getElem?_eq_getElem hlt⟩
      have hsm := HSm.out x (List.mem_of_getElem? hx)
      have hrd2 : Rdr wr.drew p (((x.key.length : Int) :: x.key) ++ (((x.val.length : Int) :: x.val) ++ encs true (es.drop (k + 1)))) := by
        have := HRd.out
        rw [drop_at hx, encs_cons, Sm_enc x hsm, List.append_assoc] at this
        exact this.below (Below.refl _ _).drew
      have HC := hide (rentry_small p x.key x.val _ wr.drew hsm.2.2.1 hsm.2.2.2.1 hsm.2.2.2.2.1 hsm.2.2.2.2.2 hrd2)
      have d1 : (k : Int) < (es.length : Int) := by omega
      clear hrd2
      go_wp2
      have hyl : ys.length ≤ 65536 := by have := congrArg List.length HEr.out; rw [ers_len, List.length_take] at this; omega
      have hpB : p < w.heap.size := hpw
      have HClC : Hid (∀ W, wr.drew.grownBy W (some p) → Cl (w.heap.size + 2) W (.slice a3 ys.length c3) ys) := hide fun W hW => HCl.out.of_block (fun j hj => hW.block j (HCl.out.block hj).2.1 (by have := (HCl.out.block hj).1; simp; omega)) (fun z hz j hj => hW.block j ((HCl.out.each z hz).lt hj) (by have := (HCl.out.each z hz).ge hj; simp; omega))
      have HUp : Hid (∀ j, ((Value.slice a3 ys.length c3).ownBlock = some j ∨ ∃ z ∈ ys, z.has j) → j < wr.heap.size) := hide fun j hj => hj.elim (fun h => (HCl.out.block h).2.1) (fun ⟨z, hz, h⟩ => (HCl.out.each z hz).lt h)
      refine wp_region_any (by kernel_rfl) ?_
      change wpAny _ _ _ _ _ _ _ (World.drew _)
      refine wpAny_take (i := 0) (v := ?v0_1) rfl (by kernel_rfl) (by kernel_rfl) (by kernel_rfl) (fun _ _ _ h => h) (Or.inl ⟨by rfl, ?hy0_1⟩) ?rest0_1
      case hy0_1 => (intro w; (first | (go_simp; with_reducible rfl) | go_simp))
      try simp only [Act.put, List.setIfInBounds_toArray]
      refine wpAny_take (i := 2) (v := ?v2_2) rfl (by kernel_rfl) (by kernel_rfl) (by kernel_rfl) (fun _ _ _ h => h) (Or.inl ⟨by rfl, ?hy2_2⟩) ?rest2_2
      case hy2_2 => (intro w; (first | (go_simp; with_reducible rfl) | go_simp))
      try simp only [Act.put]
      refine wpAny_take (i := 3) (v := ?v3_3) rfl (by kernel_rfl) (by kernel_rfl) (by kernel_rfl) (fun _ _ _ h => h) (Or.inl ⟨by rfl, ?hy3_3⟩) ?rest3_3
      case hy3_3 => (intro w; (first | (go_simp; with_reducible rfl) | go_simp))
      try simp only [Act.put]
      refine wpAny_ready (rs := [1, 4]) (by kernel_rfl) (by simp) ?_
      refine AllReady.cons rfl (fun K hK => ?_) ?_
      · go_simp
        refine hK _ _ ?_
        clear hK K
        try simp only [Act.put, List.setIfInBounds_toArray, List.set_cons_zero, List.set_cons_succ]
        refine wpAny_ready (rs := [4]) (by kernel_rfl) (by simp) ?_
        refine AllReady.cons rfl (fun K hK => ?_) ?_
        · go_simp
          refine hK _ _ ?_
          clear hK K
          try simp only [Act.put, List.setIfInBounds_toArray, List.set_cons_zero, List.set_cons_succ]
          refine wpAny_ready (rs := [5]) (by kernel_rfl) (by simp) ?_
          refine AllReady.cons rfl (fun K hK => ?_) ?_
          · go_simp
            go_wp2_with (go_at_call 60; refine HC.out.mono ?_; rintro e w3 ⟨y, rfl, hye, hyo, hrd3, hg3⟩; simp only [En.v]; have HYe := hide hye; have HYo := hide hyo; have HRd3 := hide hrd3; have HG3 := hide hg3; have hx3 : w3.heap[w.heap.size + 1]? = some (.cells #[.bool true, .slice a3 ys.length c3] 24 (0, 0)) := (hg3.block _ (lt_of_block HX1.out) (by simp; omega)).trans HX1.out; obtain ⟨g0, g1, gg0⟩ := cells_two hx3; have gg1 := frozen_blk (j := 1) hx3; have HX3 := hide hx3; have HCl3 := hide ((HClC.out w3 hg3).below (below_alloc w3 (.cells #[.slice y.ka y.e.key.length y.kc, .slice y.va y.e.val.length y.vc, .int .u32 (y.e.page : Int), .int .u32 (y.e.size : Int)] 28))); have hs3 : wr.heap.size ≤ w3.heap.size := hg3.size; have g1' := (one_below1 g1 (below_alloc w3 (.cells #[.slice y.ka y.e.key.length y.kc, .slice y.va y.e.val.length y.vc, .int .u32 (y.e.page : Int), .int .u32 (y.e.size : Int)] 28))); clear hye hyo hrd3 hg3 hx3)
            try (refine hK _ _ ?_; clear hK K)
            try simp only [Act.put, List.setIfInBounds_toArray, List.set_cons_zero, List.set_cons_succ]
            refine wpAny_ready (rs := [6]) (by kernel_rfl) (by simp) ?_
            refine AllReady.cons rfl (fun K hK => ?_) ?_
            · go_simp
              refine hK _ _ ?_
              clear hK K
              try simp only [Act.put, List.setIfInBounds_toArray, List.set_cons_zero, List.set_cons_succ]
              refine wpAny_ready (rs := [7]) (by kernel_rfl) (by simp) ?_
              refine AllReady.cons rfl (fun K hK => ?_) ?_
              · refine step_append_own _ (by rfl) (.tmp 22) (.tmp 27) 22 (by rfl) (w.heap.size + 2) 28 i0 _ 4 56 Try.underlying22 hi hz0 hz1 hz2 (by rfl) (by omega) (.slice a3 ys.length c3) ys.length (rowc ys) (by rfl) HCl3.out.row ⟨w3.heap.size, 0, none⟩ 1 1 y.cells (by rfl) (by rfl) (box_news w3 y) (cells_one y) (by unfold maxLen; omega) (by omega) (by simp; omega) ?_
                intro v' w4 hown4 hg4 hn4
                have hC4 := HCl3.out.snoc2 (y := y) (C := wr.heap.size) HUp.out hsz (HYo.out.below (below_alloc w3 _)) hg4 hown4
                obtain ⟨a4, c4, rfl, -⟩ := hC4.ens
                have hxa := (Below.heap_alloc w3 (.cells #[.slice y.ka y.e.key.length y.kc, .slice y.va y.e.val.length y.vc, .int .u32 (y.e.page : Int), .int .u32 (y.e.size : Int)] 28) _ (lt_of_block HX3.out)).trans HX3.out
                have hx4 := (hg4.block _ (lt_of_block hxa) (fun e => (HCl3.out.noNode hxa).1 e.symm)).trans hxa
                obtain ⟨t0, t1, tt0⟩ := cells_two hx4
                have tt1 := frozen_blk (j := 1) hx4
                have HX4 := hide hx4
                have HC4 := hide hC4
                have HG4 := hide hg4
                clear hown4 hg4 hn4 hC4 hxa hx4
                refine hK _ _ ?_
                clear hK K
                try simp only [Act.put, List.setIfInBounds_toArray]
                refine wpAny_ready (rs := [8]) (by kernel_rfl) (by simp) ?_
                refine AllReady.cons rfl (fun K hK => ?_) ?_
                · go_simp
                  refine hK _ _ ?_
                  clear hK K
                  try simp only [Act.put, List.setIfInBounds_toArray, List.set_cons_zero, List.set_cons_succ]
                  refine wpAny_ready (rs := [9]) (by kernel_rfl) (by simp) ?_
                  refine AllReady.cons rfl (fun K hK => ?_) ?_
                  · go_simp
                    refine hK _ _ ?_
                    clear hK K
                    try simp only [Act.put, List.setIfInBounds_toArray, List.set_cons_zero, List.set_cons_succ]
                    refine wpAny_done (by kernel_rfl) ?_ _
                    go_wp2
                    go_roundw
                    case rel =>
                      have hs4 : w3.heap.size ≤ w4.heap.size := by have := HG4.out.size; simp at this; omega
                      have hst : ∀ j, j < w3.heap.size → (Value.slice a3 ys.length c3).ownBlock ≠ some j → j ≠ w.heap.size + 1 → (w4.setCell ⟨w.heap.size + 1, 1, none⟩ (.slice a4 (ys ++ [y]).length c4)).heap[j]? = w3.heap[j]? := fun j hj h1 h2 => (Below.heap_setCell _ _ _ _ h2).trans ((HG4.out.block j (by simp; omega) (fun e => h1 e.symm)).trans (Below.heap_alloc w3 _ j hj))
                      have hob : ∀ j, j < w.heap.size + 2 → (Value.slice a3 ys.length c3).ownBlock ≠ some j := fun j hj e => by have := (HCl.out.block e).1; omega
                      rw [show ys.length + 1 = (ys ++ [y]).length by simp]
                      refine ⟨k + 1, ys ++ [y], a4, c4, by omega, by go_num, ?_, ?_, ?_, ?_, ?_, ?_, by simp [World.setCell]; omega⟩
                      · rw [take_at hx, ers_app, HEr.out]
                        simp [ers, HYe.out]
                        obtain ⟨xk, xv, xp, xs⟩ := x
                        have h1 := hsm.1
                        have h2 := hsm.2.1
                        simp only [] at h1 h2 ⊢
                        rw [h1, h2]
                      · exact (hst _ (by omega) (hob _ (by omega)) (by omega)).trans ((HG3.out.block _ (lt_of_block HX0.out) (by simp; omega)).trans HX0.out)
                      · rw [heap_setCell_same _ _ 1 _ 24 _ HX4.out]; rfl
                      · exact HC4.out.offNode HX4.out (fun j hj => Below.heap_setCell _ _ _ _ hj)
                      · obtain ⟨ra, rn, rcc, hrd⟩ := HRd3.out
                        have hpl := hrd.lt
                        refine ⟨ra, rn, rcc, (hst p (by omega) (hob p (by omega)) (by omega)).trans hrd.blk, hrd.len, hrd.cap, hrd.max, hrd.bare, ?_, hrd.byts⟩
                        rcases hrd.row with h0 | ⟨b, off, e, hlt2, hne, hcc⟩
                        · exact .inl h0
                        · exact .inr ⟨b, off, e, by simp [World.setCell]; omega, hne, fun j hj => by
                            have := hst b (by omega) (hob b (by omega)) (by omega)
                            rw [← hcc j hj]
                            simp only [World.cell?]
                            rw [this]⟩
                      · refine HKb.out.trans ⟨HG4.out.os.trans HG3.out.os, HG4.out.tape.trans HG3.out.tape, HG4.out.output.trans HG3.out.output, by have := HG3.out.size; simp [World.setCell] at this ⊢; omega, fun j hj h1 => ?_⟩
                        exact (hst j (by omega) (hob j (by omega)) (by omega)).trans (HG3.out.block j (by show j < wr.heap.size; omega) (by simpa using h1))
                    case measure => simp [intOf]; omega
                  exact AllReady.nil
                exact AllReady.nil
              exact AllReady.nil
            exact AllReady.nil
          exact AllReady.nil
        exact AllReady.nil
      refine AllReady.cons rfl (fun K hK => ?_) ?_
      · go_simp
        refine hK _ _ ?_
        clear hK K
        try simp only [Act.put, List.setIfInBounds_toArray, List.set_cons_zero, List.set_cons_succ]
        refine wpAny_ready (rs := [1, 5]) (by kernel_rfl) (by simp) ?_
        refine AllReady.cons rfl (fun K hK => ?_) ?_
        · go_simp
          refine hK _ _ ?_
          clear hK K
          try simp only [Act.put, List.setIfInBounds_toArray, List.set_cons_zero, List.set_cons_succ]
          refine wpAny_ready (rs := [5]) (by kernel_rfl) (by simp) ?_
          refine AllReady.cons rfl (fun K hK => ?_) ?_
          · go_simp
            go_wp2_with (go_at_call 60; refine HC.out.mono ?_; rintro e w3 ⟨y, rfl, hye, hyo, hrd3, hg3⟩; simp only [En.v]; have HYe := hide hye; have HYo := hide hyo; have HRd3 := hide hrd3; have HG3 := hide hg3; have hx3 : w3.heap[w.heap.size + 1]? = some (.cells #[.bool true, .slice a3 ys.length c3] 24 (0, 0)) := (hg3.block _ (lt_of_block HX1.out) (by simp; omega)).trans HX1.out; obtain ⟨g0, g1, gg0⟩ := cells_two hx3; have gg1 := frozen_blk (j := 1) hx3; have HX3 := hide hx3; have HCl3 := hide ((HClC.out w3 hg3).below (below_alloc w3 (.cells #[.slice y.ka y.e.key.length y.kc, .slice y.va y.e.val.length y.vc, .int .u32 (y.e.page : Int), .int .u32 (y.e.size : Int)] 28))); have hs3 : wr.heap.size ≤ w3.heap.size := hg3.size; have g1' := (one_below1 g1 (below_alloc w3 (.cells #[.slice y.ka y.e.key.length y.kc, .slice y.va y.e.val.length y.vc, .int .u32 (y.e.page : Int), .int .u32 (y.e.size : Int)] 28))); clear hye hyo hrd3 hg3 hx3)
            try (refine hK _ _ ?_; clear hK K)
            try simp only [Act.put, List.setIfInBounds_toArray, List.set_cons_zero, List.set_cons_succ]
            refine wpAny_ready (rs := [6]) (by kernel_rfl) (by simp) ?_
            refine AllReady.cons rfl (fun K hK => ?_) ?_
            · go_simp
              refine hK _ _ ?_
              clear hK K
              try simp only [Act.put, List.setIfInBounds_toArray, List.set_cons_zero, List.set_cons_succ]
              refine wpAny_ready (rs := [7]) (by kernel_rfl) (by simp) ?_
              refine AllReady.cons rfl (fun K hK => ?_) ?_
              · refine step_append_own _ (by rfl) (.tmp 22) (.tmp 27) 22 (by rfl) (w.heap.size + 2) 28 i0 _ 4 56 Try.underlying22 hi hz0 hz1 hz2 (by rfl) (by omega) (.slice a3 ys.length c3) ys.length (rowc ys) (by rfl) HCl3.out.row ⟨w3.heap.size, 0, none⟩ 1 1 y.cells (by rfl) (by rfl) (box_news w3 y) (cells_one y) (by unfold maxLen; omega) (by omega) (by simp; omega) ?_
                intro v' w4 hown4 hg4 hn4
                have hC4 := HCl3.out.snoc2 (y := y) (C := wr.heap.size) HUp.out hsz (HYo.out.below (below_alloc w3 _)) hg4 hown4
                obtain ⟨a4, c4, rfl, -⟩ := hC4.ens
                have hxa := (Below.heap_alloc w3 (.cells #[.slice y.ka y.e.key.length y.kc, .slice y.va y.e.val.length y.vc, .int .u32 (y.e.page : Int), .int .u32 (y.e.size : Int)] 28) _ (lt_of_block HX3.out)).trans HX3.out
                have hx4 := (hg4.block _ (lt_of_block hxa) (fun e => (HCl3.out.noNode hxa).1 e.symm)).trans hxa
                obtain ⟨t0, t1, tt0⟩ := cells_two hx4
                have tt1 := frozen_blk (j := 1) hx4
                have HX4 := hide hx4
                have HC4 := hide hC4
                have HG4 := hide hg4
                clear hown4 hg4 hn4 hC4 hxa hx4
                refine hK _ _ ?_
                clear hK K
                try simp only [Act.put, List.setIfInBounds_toArray]
                refine wpAny_ready (rs := [8]) (by kernel_rfl) (by simp) ?_
                refine AllReady.cons rfl (fun K hK => ?_) ?_
                · go_simp
                  refine hK _ _ ?_
                  clear hK K
                  try simp only [Act.put, List.setIfInBounds_toArray, List.set_cons_zero, List.set_cons_succ]
                  refine wpAny_ready (rs := [9]) (by kernel_rfl) (by simp) ?_
                  refine AllReady.cons rfl (fun K hK => ?_) ?_
                  · go_simp
                    refine hK _ _ ?_
                    clear hK K
                    try simp only [Act.put, List.setIfInBounds_toArray, List.set_cons_zero, List.set_cons_succ]
                    refine wpAny_done (by kernel_rfl) ?_ _
                    go_wp2
                    go_roundw
                    case rel =>
                      have hs4 : w3.heap.size ≤ w4.heap.size := by have := HG4.out.size; simp at this; omega
                      have hst : ∀ j, j < w3.heap.size → (Value.slice a3 ys.length c3).ownBlock ≠ some j → j ≠ w.heap.size + 1 → (w4.setCell ⟨w.heap.size + 1, 1, none⟩ (.slice a4 (ys ++ [y]).length c4)).heap[j]? = w3.heap[j]? := fun j hj h1 h2 => (Below.heap_setCell _ _ _ _ h2).trans ((HG4.out.block j (by simp; omega) (fun e => h1 e.symm)).trans (Below.heap_alloc w3 _ j hj))
                      have hob : ∀ j, j < w.heap.size + 2 → (Value.slice a3 ys.length c3).ownBlock ≠ some j := fun j hj e => by have := (HCl.out.block e).1; omega
                      rw [show ys.length + 1 = (ys ++ [y]).length by simp]
                      refine ⟨k + 1, ys ++ [y], a4, c4, by omega, by go_num, ?_, ?_, ?_, ?_, ?_, ?_, by simp [World.setCell]; omega⟩
                      · rw [take_at hx, ers_app, HEr.out]
                        simp [ers, HYe.out]
                        obtain ⟨xk, xv, xp, xs⟩ := x
                        have h1 := hsm.1
                        have h2 := hsm.2.1
                        simp only [] at h1 h2 ⊢
                        rw [h1, h2]
                      · exact (hst _ (by omega) (hob _ (by omega)) (by omega)).trans ((HG3.out.block _ (lt_of_block HX0.out) (by simp; omega)).trans HX0.out)
                      · rw [heap_setCell_same _ _ 1 _ 24 _ HX4.out]; rfl
                      · exact HC4.out.offNode HX4.out (fun j hj => Below.heap_setCell _ _ _ _ hj)
                      · obtain ⟨ra, rn, rcc, hrd⟩ := HRd3.out
                        have hpl := hrd.lt
                        refine ⟨ra, rn, rcc, (hst p (by omega) (hob p (by omega)) (by omega)).trans hrd.blk, hrd.len, hrd.cap, hrd.max, hrd.bare, ?_, hrd.byts⟩
                        rcases hrd.row with h0 | ⟨b, off, e, hlt2, hne, hcc⟩
                        · exact .inl h0
                        · exact .inr ⟨b, off, e, by simp [World.setCell]; omega, hne, fun j hj => by
                            have := hst b (by omega) (hob b (by omega)) (by omega)
                            rw [← hcc j hj]
                            simp only [World.cell?]
                            rw [this]⟩
                      · refine HKb.out.trans ⟨HG4.out.os.trans HG3.out.os, HG4.out.tape.trans HG3.out.tape, HG4.out.output.trans HG3.out.output, by have := HG3.out.size; simp [World.setCell] at this ⊢; omega, fun j hj h1 => ?_⟩
                        exact (hst j (by omega) (hob j (by omega)) (by omega)).trans (HG3.out.block j (by show j < wr.heap.size; omega) (by simpa using h1))
                    case measure => simp [intOf]; omega
                  exact AllReady.nil
                exact AllReady.nil
              exact AllReady.nil
            exact AllReady.nil
          exact AllReady.nil
        refine AllReady.cons rfl (fun K hK => ?_) ?_
        · go_simp
          go_wp2_with (go_at_call 60; refine HC.out.mono ?_; rintro e w3 ⟨y, rfl, hye, hyo, hrd3, hg3⟩; simp only [En.v]; have HYe := hide hye; have HYo := hide hyo; have HRd3 := hide hrd3; have HG3 := hide hg3; have hx3 : w3.heap[w.heap.size + 1]? = some (.cells #[.bool true, .slice a3 ys.length c3] 24 (0, 0)) := (hg3.block _ (lt_of_block HX1.out) (by simp; omega)).trans HX1.out; obtain ⟨g0, g1, gg0⟩ := cells_two hx3; have gg1 := frozen_blk (j := 1) hx3; have HX3 := hide hx3; have HCl3 := hide ((HClC.out w3 hg3).below (below_alloc w3 (.cells #[.slice y.ka y.e.key.length y.kc, .slice y.va y.e.val.length y.vc, .int .u32 (y.e.page : Int), .int .u32 (y.e.size : Int)] 28))); have hs3 : wr.heap.size ≤ w3.heap.size := hg3.size; have g1' := (one_below1 g1 (below_alloc w3 (.cells #[.slice y.ka y.e.key.length y.kc, .slice y.va y.e.val.length y.vc, .int .u32 (y.e.page : Int), .int .u32 (y.e.size : Int)] 28))); clear hye hyo hrd3 hg3 hx3)
          try (refine hK _ _ ?_; clear hK K)
          try simp only [Act.put, List.setIfInBounds_toArray, List.set_cons_zero, List.set_cons_succ]
          refine wpAny_ready (rs := [1, 6]) (by kernel_rfl) (by simp) ?_
          refine AllReady.cons rfl (fun K hK => ?_) ?_
          · go_simp
            refine hK _ _ ?_
            clear hK K
            try simp only [Act.put, List.setIfInBounds_toArray, List.set_cons_zero, List.set_cons_succ]
            refine wpAny_ready (rs := [6]) (by kernel_rfl) (by simp) ?_
            refine AllReady.cons rfl (fun K hK => ?_) ?_
            · go_simp
              refine hK _ _ ?_
              clear hK K
              try simp only [Act.put, List.setIfInBounds_toArray, List.set_cons_zero, List.set_cons_succ]
              refine wpAny_ready (rs := [7]) (by kernel_rfl) (by simp) ?_
              refine AllReady.cons rfl (fun K hK => ?_) ?_
              · refine step_append_own _ (by rfl) (.tmp 22) (.tmp 27) 22 (by rfl) (w.heap.size + 2) 28 i0 _ 4 56 Try.underlying22 hi hz0 hz1 hz2 (by rfl) (by omega) (.slice a3 ys.length c3) ys.length (rowc ys) (by rfl) HCl3.out.row ⟨w3.heap.size, 0, none⟩ 1 1 y.cells (by rfl) (by rfl) (box_news w3 y) (cells_one y) (by unfold maxLen; omega) (by omega) (by simp; omega) ?_
                intro v' w4 hown4 hg4 hn4
                have hC4 := HCl3.out.snoc2 (y := y) (C := wr.heap.size) HUp.out hsz (HYo.out.below (below_alloc w3 _)) hg4 hown4
                obtain ⟨a4, c4, rfl, -⟩ := hC4.ens
                have hxa := (Below.heap_alloc w3 (.cells #[.slice y.ka y.e.key.length y.kc, .slice y.va y.e.val.length y.vc, .int .u32 (y.e.page : Int), .int .u32 (y.e.size : Int)] 28) _ (lt_of_block HX3.out)).trans HX3.out
                have hx4 := (hg4.block _ (lt_of_block hxa) (fun e => (HCl3.out.noNode hxa).1 e.symm)).trans hxa
                obtain ⟨t0, t1, tt0⟩ := cells_two hx4
                have tt1 := frozen_blk (j := 1) hx4
                have HX4 := hide hx4
                have HC4 := hide hC4
                have HG4 := hide hg4
                clear hown4 hg4 hn4 hC4 hxa hx4
                refine hK _ _ ?_
                clear hK K
                try simp only [Act.put, List.setIfInBounds_toArray]
                refine wpAny_ready (rs := [8]) (by kernel_rfl) (by simp) ?_
                refine AllReady.cons rfl (fun K hK => ?_) ?_
                · go_simp
                  refine hK _ _ ?_
                  clear hK K
                  try simp only [Act.put, List.setIfInBounds_toArray, List.set_cons_zero, List.set_cons_succ]
                  refine wpAny_ready (rs := [9]) (by kernel_rfl) (by simp) ?_
                  refine AllReady.cons rfl (fun K hK => ?_) ?_
                  · go_simp
                    refine hK _ _ ?_
                    clear hK K
                    try simp only [Act.put, List.setIfInBounds_toArray, List.set_cons_zero, List.set_cons_succ]
                    refine wpAny_done (by kernel_rfl) ?_ _
                    go_wp2
                    go_roundw
                    case rel =>
                      have hs4 : w3.heap.size ≤ w4.heap.size := by have := HG4.out.size; simp at this; omega
                      have hst : ∀ j, j < w3.heap.size → (Value.slice a3 ys.length c3).ownBlock ≠ some j → j ≠ w.heap.size + 1 → (w4.setCell ⟨w.heap.size + 1, 1, none⟩ (.slice a4 (ys ++ [y]).length c4)).heap[j]? = w3.heap[j]? := fun j hj h1 h2 => (Below.heap_setCell _ _ _ _ h2).trans ((HG4.out.block j (by simp; omega) (fun e => h1 e.symm)).trans (Below.heap_alloc w3 _ j hj))
                      have hob : ∀ j, j < w.heap.size + 2 → (Value.slice a3 ys.length c3).ownBlock ≠ some j := fun j hj e => by have := (HCl.out.block e).1; omega
                      rw [show ys.length + 1 = (ys ++ [y]).length by simp]
                      refine ⟨k + 1, ys ++ [y], a4, c4, by omega, by go_num, ?_, ?_, ?_, ?_, ?_, ?_, by simp [World.setCell]; omega⟩
                      · rw [take_at hx, ers_app, HEr.out]
                        simp [ers, HYe.out]
                        obtain ⟨xk, xv, xp, xs⟩ := x
                        have h1 := hsm.1
                        have h2 := hsm.2.1
                        simp only [] at h1 h2 ⊢
                        rw [h1, h2]
                      · exact (hst _ (by omega) (hob _ (by omega)) (by omega)).trans ((HG3.out.block _ (lt_of_block HX0.out) (by simp; omega)).trans HX0.out)
                      · rw [heap_setCell_same _ _ 1 _ 24 _ HX4.out]; rfl
                      · exact HC4.out.offNode HX4.out (fun j hj => Below.heap_setCell _ _ _ _ hj)
                      · obtain ⟨ra, rn, rcc, hrd⟩ := HRd3.out
                        have hpl := hrd.lt
                        refine ⟨ra, rn, rcc, (hst p (by omega) (hob p (by omega)) (by omega)).trans hrd.blk, hrd.len, hrd.cap, hrd.max, hrd.bare, ?_, hrd.byts⟩
                        rcases hrd.row with h0 | ⟨b, off, e, hlt2, hne, hcc⟩
                        · exact .inl h0
                        · exact .inr ⟨b, off, e, by simp [World.setCell]; omega, hne, fun j hj => by
                            have := hst b (by omega) (hob b (by omega)) (by omega)
                            rw [← hcc j hj]
                            simp only [World.cell?]
                            rw [this]⟩
                      · refine HKb.out.trans ⟨HG4.out.os.trans HG3.out.os, HG4.out.tape.trans HG3.out.tape, HG4.out.output.trans HG3.out.output, by have := HG3.out.size; simp [World.setCell] at this ⊢; omega, fun j hj h1 => ?_⟩
                        exact (hst j (by omega) (hob j (by omega)) (by omega)).trans (HG3.out.block j (by show j < wr.heap.size; omega) (by simpa using h1))
                    case measure => simp [intOf]; omega
                  exact AllReady.nil
                exact AllReady.nil
              exact AllReady.nil
            exact AllReady.nil
          refine AllReady.cons rfl (fun K hK => ?_) ?_
          · go_simp
            refine hK _ _ ?_
            clear hK K
            try simp only [Act.put, List.setIfInBounds_toArray, List.set_cons_zero, List.set_cons_succ]
            refine wpAny_ready (rs := [1]) (by kernel_rfl) (by simp) ?_
            refine AllReady.cons rfl (fun K hK => ?_) ?_
            · go_simp
              refine hK _ _ ?_
              clear hK K
              try simp only [Act.put, List.setIfInBounds_toArray, List.set_cons_zero, List.set_cons_succ]
              refine wpAny_ready (rs := [7]) (by kernel_rfl) (by simp) ?_
              refine AllReady.cons rfl (fun K hK => ?_) ?_
              · refine step_append_own _ (by rfl) (.tmp 22) (.tmp 27) 22 (by rfl) (w.heap.size + 2) 28 i0 _ 4 56 Try.underlying22 hi hz0 hz1 hz2 (by rfl) (by omega) (.slice a3 ys.length c3) ys.length (rowc ys) (by rfl) HCl3.out.row ⟨w3.heap.size, 0, none⟩ 1 1 y.cells (by rfl) (by rfl) (box_news w3 y) (cells_one y) (by unfold maxLen; omega) (by omega) (by simp; omega) ?_
                intro v' w4 hown4 hg4 hn4
                have hC4 := HCl3.out.snoc2 (y := y) (C := wr.heap.size) HUp.out hsz (HYo.out.below (below_alloc w3 _)) hg4 hown4
                obtain ⟨a4, c4, rfl, -⟩ := hC4.ens
                have hxa := (Below.heap_alloc w3 (.cells #[.slice y.ka y.e.key.length y.kc, .slice y.va y.e.val.length y.vc, .int .u32 (y.e.page : Int), .int .u32 (y.e.size : Int)] 28) _ (lt_of_block HX3.out)).trans HX3.out
                have hx4 := (hg4.block _ (lt_of_block hxa) (fun e => (HCl3.out.noNode hxa).1 e.symm)).trans hxa
                obtain ⟨t0, t1, tt0⟩ := cells_two hx4
                have tt1 := frozen_blk (j := 1) hx4
                have HX4 := hide hx4
                have HC4 := hide hC4
                have HG4 := hide hg4
                clear hown4 hg4 hn4 hC4 hxa hx4
                refine hK _ _ ?_
                clear hK K
                try simp only [Act.put, List.setIfInBounds_toArray]
                refine wpAny_ready (rs := [8]) (by kernel_rfl) (by simp) ?_
                refine AllReady.cons rfl (fun K hK => ?_) ?_
                · go_simp
                  refine hK _ _ ?_
                  clear hK K
                  try simp only [Act.put, List.setIfInBounds_toArray, List.set_cons_zero, List.set_cons_succ]
                  refine wpAny_ready (rs := [9]) (by kernel_rfl) (by simp) ?_
                  refine AllReady.cons rfl (fun K hK => ?_) ?_
                  · go_simp
                    refine hK _ _ ?_
                    clear hK K
                    try simp only [Act.put, List.setIfInBounds_toArray, List.set_cons_zero, List.set_cons_succ]
                    refine wpAny_done (by kernel_rfl) ?_ _
                    go_wp2
                    go_roundw
                    case rel =>
                      have hs4 : w3.heap.size ≤ w4.heap.size := by have := HG4.out.size; simp at this; omega
                      have hst : ∀ j, j < w3.heap.size → (Value.slice a3 ys.length c3).ownBlock ≠ some j → j ≠ w.heap.size + 1 → (w4.setCell ⟨w.heap.size + 1, 1, none⟩ (.slice a4 (ys ++ [y]).length c4)).heap[j]? = w3.heap[j]? := fun j hj h1 h2 => (Below.heap_setCell _ _ _ _ h2).trans ((HG4.out.block j (by simp; omega) (fun e => h1 e.symm)).trans (Below.heap_alloc w3 _ j hj))
                      have hob : ∀ j, j < w.heap.size + 2 → (Value.slice a3 ys.length c3).ownBlock ≠ some j := fun j hj e => by have := (HCl.out.block e).1; omega
                      rw [show ys.length + 1 = (ys ++ [y]).length by simp]
                      refine ⟨k + 1, ys ++ [y], a4, c4, by omega, by go_num, ?_, ?_, ?_, ?_, ?_, ?_, by simp [World.setCell]; omega⟩
                      · rw [take_at hx, ers_app, HEr.out]
                        simp [ers, HYe.out]
                        obtain ⟨xk, xv, xp, xs⟩ := x
                        have h1 := hsm.1
                        have h2 := hsm.2.1
                        simp only [] at h1 h2 ⊢
                        rw [h1, h2]
                      · exact (hst _ (by omega) (hob _ (by omega)) (by omega)).trans ((HG3.out.block _ (lt_of_block HX0.out) (by simp; omega)).trans HX0.out)
                      · rw [heap_setCell_same _ _ 1 _ 24 _ HX4.out]; rfl
                      · exact HC4.out.offNode HX4.out (fun j hj => Below.heap_setCell _ _ _ _ hj)
                      · obtain ⟨ra, rn, rcc, hrd⟩ := HRd3.out
                        have hpl := hrd.lt
                        refine ⟨ra, rn, rcc, (hst p (by omega) (hob p (by omega)) (by omega)).trans hrd.blk, hrd.len, hrd.cap, hrd.max, hrd.bare, ?_, hrd.byts⟩
                        rcases hrd.row with h0 | ⟨b, off, e, hlt2, hne, hcc⟩
                        · exact .inl h0
                        · exact .inr ⟨b, off, e, by simp [World.setCell]; omega, hne, fun j hj => by
                            have := hst b (by omega) (hob b (by omega)) (by omega)
                            rw [← hcc j hj]
                            simp only [World.cell?]
                            rw [this]⟩
                      · refine HKb.out.trans ⟨HG4.out.os.trans HG3.out.os, HG4.out.tape.trans HG3.out.tape, HG4.out.output.trans HG3.out.output, by have := HG3.out.size; simp [World.setCell] at this ⊢; omega, fun j hj h1 => ?_⟩
                        exact (hst j (by omega) (hob j (by omega)) (by omega)).trans (HG3.out.block j (by show j < wr.heap.size; omega) (by simpa using h1))
                    case measure => simp [intOf]; omega
                  exact AllReady.nil
                exact AllReady.nil
              exact AllReady.nil
            exact AllReady.nil
          exact AllReady.nil
        exact AllReady.nil
      exact AllReady.nil
    · obtain rfl : k = es.length := by omega
      have HF : Hid (es.take es.length = es) := hide (List.take_length)
      have hrd0 : Rdr wr p [] := by have := HRd.out; rw [List.drop_length] at this; exact this
      obtain ⟨ra, rn, rcc, hrd⟩ := hrd0
      have hr0 : rn = 0 := by have := hrd.len; simpa using this.symm
      subst hr0
      have rc0 := hrd.c0
      obtain ⟨ae, ce, hev, hens⟩ := HCl.out.ens
      cases hev
      have HCk := hide (fun W (hW : Below wr.heap.size wr W) => check_any true a3 ys.length c3 ys W (hens.below hW) (by have := congrArg List.length HEr.out; rw [ers_len, List.length_take] at this; omega) (by rw [HEr.out, HF.out]; exact hw))
      rw [HEr.out, HF.out, hc] at HCk
      have HRd2 := hide hrd
      clear hrd hens
      go_wp2_with fail
      refine (must_yes _ _ rfl _).mono ?_
      rintro e w5 ⟨rfl, rfl⟩
      go_wp2_with fail
      refine (HCk.out _ (Below.refl _ _)).mono ?_
      rintro e w6 ⟨rfl, hb6⟩
      have hy0 := (hb6.block _ (lt_of_block HX0.out)).trans HX0.out
      have hy1 := (hb6.block _ (lt_of_block HX1.out)).trans HX1.out
      obtain ⟨g0, g1, -⟩ := cells_two hy1
      obtain ⟨z0, z1, zz0⟩ := cells_two hy0
      have zz1 := frozen_blk (j := 1) hy0
      have HY0 := hide hy0
      have HB6 := hide hb6
      clear hb6 hy0 hy1
      go_wp2_with (go_at_call 58; refine (must_yes _ _ rfl _).mono ?_; rintro e w7 ⟨rfl, rfl⟩)
      have hf := two_set (u := .bool true) (v := .slice a3 ys.length c3) HY0.out
      obtain ⟨q0, q1, -⟩ := cells_two hf
      refine bodyPost_ret (v := .agg #[.bool true, .slice a3 ys.length c3]) ?_ rfl ?_
      · simp [results, Try.results38, go_sem, q0, q1]
      · refine ⟨_, ys, rfl, by rw [HEr.out, HF.out], ((HCl.out.below HB6.out).other (fun j hj => two_other (by omega))).mono (by omega), ?_⟩
        have k1 := HKb.out.trans (Kb.of_below HB6.out (by omega))
        exact ⟨k1.os, k1.tape, k1.output, by have := k1.size; simpa [World.setCell] using this, fun j hj h1 => (two_other (by omega)).trans (k1.block j hj (by simpa using h1))⟩
end Go.Proofs.Ytcflnkepopcofaa
