/- The reader of a node, of any bytes. -/
import Derived.Test.YtjojpohnmfkanaaRH
namespace Go.Proofs.Ytjojpohnmfkanaa
open Go.RowKit
set_option linter.unusedVariables false

theorem rok_wt {leaf : Bool} {e : Ee} (h : e.Rok leaf) : e.key.length + e.val.length ≤ (e.enc leaf).length := by
  obtain ⟨_, _, h3⟩ := h
  cases leaf with
  | true =>
    simp only [if_true] at h3
    rw [enc_tail]
    rcases vok_cases h3 with ⟨_, _, _, ht⟩ | ⟨hv, _, _, _, _, ht⟩
    · rw [ht]; simp; omega
    · rw [ht, hv]; simp; omega
  | false =>
    simp only [Bool.false_eq_true, if_false] at h3
    rw [enc_branch, h3.1]
    simp; omega
theorem wts_encs {leaf : Bool} {es : List Ee} (h : ∀ e ∈ es, e.Rok leaf) : wts es ≤ (encs leaf es).length := by
  induction es with
  | nil => simp [wts, encs]
  | cons e es ih =>
    rw [wts_cons, encs_cons, List.length_append]
    have := rok_wt (h e (List.mem_cons_self ..))
    have := ih (fun x hx => h x (List.mem_cons_of_mem _ hx))
    omega
theorem rok_byts {leaf : Bool} {e : Ee} (h : e.Rok leaf) : Byts e.key ∧ Byts e.val := by
  obtain ⟨_, h2, h3⟩ := h
  cases leaf with
  | true => simp only [if_true] at h3; exact ⟨h2, h3.1⟩
  | false => simp only [Bool.false_eq_true, if_false] at h3; rw [h3.1]; exact ⟨h2, by intro c hc; simp at hc⟩
/-- what has been read of a node's bytes. -/
structure Rpt (leaf : Bool) (zs : List Int) (N : Nat) (ys : List Ee) (rest : List Int) : Prop where
  eq : zs = Crc.le 2 N ++ (encs leaf ys ++ rest)
  cnt : N < 65536
  le : ys.length ≤ N
  rok : ∀ e ∈ ys, e.Rok leaf
theorem Rpt.split {leaf : Bool} {zs : List Int} {N : Nat} {ys : List Ee} {rest : List Int} (h : Rpt leaf zs N ys rest) {es : List Ee} (k : IsNode leaf zs es) : ∃ t, es = ys ++ t ∧ rest = encs leaf t ∧ es.length = N ∧ ∀ e ∈ t, e.Rok leaf := by
  obtain ⟨k1, k2, k3⟩ := k
  have hl := len_small k2
  have e := h.eq
  rw [k1] at e
  unfold nenc at e
  obtain ⟨a, b⟩ := List.append_inj e (by rw [Crc.le_length, Crc.le_length])
  have hc := h.cnt
  have hN := Crc.le_inj 2 _ _ (by omega) (by omega) a
  have hr := rok_of_may (chk_zero k2).1 k3
  obtain ⟨t, ht, hrt⟩ := encs_free h.rok hr (by have := h.le; omega) b.symm
  exact ⟨t, ht, hrt, hN, fun x hx => hr x (by rw [ht]; exact List.mem_append.2 (.inr hx))⟩
theorem Rpt.more {leaf : Bool} {zs : List Int} {N : Nat} {ys : List Ee} {rest rest' : List Int} {x : Ee} (h : Rpt leaf zs N ys rest) (hx : x.Rok leaf) (hr : rest = x.enc leaf ++ rest') (hl : ys.length < N) : Rpt leaf zs N (ys ++ [x]) rest' := by
  refine ⟨?_, h.cnt, by simp; omega, fun e he => ?_⟩
  · rw [h.eq, encs_app, hr]
    simp [encs]
  · rcases List.mem_append.1 he with he | he
    · exact h.rok e he
    · simp at he; subst he; exact hx
theorem Rpt.stuck {leaf : Bool} {zs : List Int} {N : Nat} {ys : List Ee} {rest : List Int} (h : Rpt leaf zs N ys rest) (hl : ys.length < N) (hno : ∀ (x : Ee) (r : List Int), x.Rok leaf → rest ≠ x.enc leaf ++ r) (es : List Ee) : ¬ IsNode leaf zs es := fun k => by
  obtain ⟨t, ht, hr, hn, hk⟩ := h.split k
  cases t with
  | nil => rw [ht] at hn; simp at hn; omega
  | cons x t => exact hno x _ (hk x (List.mem_cons_self ..)) (by rw [hr, encs_cons])
theorem Rpt.long {leaf : Bool} {zs : List Int} {N : Nat} {ys : List Ee} {rest : List Int} (h : Rpt leaf zs N ys rest) (hl : ys.length = N) (hr : rest ≠ []) (es : List Ee) : ¬ IsNode leaf zs es := fun k => by
  obtain ⟨t, ht, hrt, hn, hk⟩ := h.split k
  have : t = [] := List.eq_nil_of_length_eq_zero (by rw [ht] at hn; simp at hn; omega)
  rw [this] at hrt
  exact hr (by rw [hrt]; rfl)
theorem Rpt.bad {leaf : Bool} {zs : List Int} {N : Nat} {ys : List Ee} (h : Rpt leaf zs N ys []) (hl : ys.length = N) (hc : chk leaf ys ≠ 0) (es : List Ee) : ¬ IsNode leaf zs es := fun k => by
  obtain ⟨t, ht, hrt, hn, hk⟩ := h.split k
  have : t = [] := List.eq_nil_of_length_eq_zero (by rw [ht] at hn; simp at hn; omega)
  rw [this, List.append_nil] at ht
  rw [← ht] at hc
  exact hc k.2.1
theorem Rpt.good {leaf : Bool} {zs : List Int} {N : Nat} {ys : List Ee} (h : Rpt leaf zs N ys []) (hl : ys.length = N) (hc : chk leaf ys = 0) : IsNode leaf zs ys :=
  ⟨by rw [h.eq, List.append_nil, ← hl]; rfl, hc, fun e he => rok_byts (h.rok e he)⟩
theorem short_no {leaf : Bool} {zs : List Int} (h : zs.length < 2) (es : List Ee) : ¬ IsNode leaf zs es := fun k => by
  have := congrArg List.length k.1
  rw [nenc_length] at this
  unfold nsz at this
  omega
/-- what reading a node comes to. -/
def NOut (leaf : Bool) (p : Nat) (zs : List Int) (w : World) (e : Ending) (w' : World) : Prop :=
  w.grownBy w' (some p) ∧ ((∃ (v : Value) (ys : List En), e = .returned (.agg #[.bool leaf, v]) ∧ IsNode leaf zs (ers ys) ∧ Cl w.heap.size w' v ys) ∨ (e = .panicked flt ∧ ∀ es, ¬ IsNode leaf zs es))
theorem one_set2 {w : World} {q t : Nat} {a b v : Value} (h : w.heap[q]? = some (.cells #[a, b] t (0, 0))) : (w.setCell ⟨q, 1, none⟩ v).heap[q]? = some (.cells #[a, v] t (0, 0)) := by rw [heap_setCell_same _ q 1 _ t _ h]; rfl
set_option maxHeartbeats 6400000 in
set_option maxRecDepth 1000000 in
theorem rnode_leaf (p : Nat) (zs : List Int) (w : World) (h : Rdr w p zs) (hl : zs.length ≤ 100000) :
    Calls Try.prog 17 #[.pointer (some ⟨p, 0, none⟩), .int .u8 1] w fun e w' => NOut true p zs w e w' := by
  obtain ⟨i0, hi, hz0, hz1, hz2⟩ := info_parts Try.infoE
  obtain ⟨hB, hb0, hb1, hs1⟩ := pair_boxes w (.bool false) (.slice none 0 0) (.bool true) (.slice none 0 0)
  have hpw := h.lt
  have HB := hide hB
  have HB0 := hide hb0
  have HB1 := hide hb1
  have HS1 := hide hs1
  by_cases hsh : zs.length < 2
  · have HN := hide (num_no p 2 zs _ hsh (by omega) (h.below hB))
    clear h hB hb0 hb1 hs1
    go_enter Try.func17, Try.ntmps17
    go_wp2_with (go_at_call 56; refine (must_yes _ _ rfl _).mono ?_; rintro e w' ⟨rfl, rfl⟩)
    refine HN.out.mono ?_
    rintro e w2 ⟨rfl, hg⟩
    exact ⟨rfl, grown_trans (grown_below HB.out) hg, .inr ⟨rfl, short_no hsh⟩⟩
  · obtain ⟨xs, r0, hzs, hx⟩ : ∃ xs r0, zs = xs ++ r0 ∧ xs.length = 2 := ⟨zs.take 2, zs.drop 2, (List.take_append_drop 2 zs).symm, by simp; omega⟩
    have hx8 : Byts xs := fun x hx => h.byts x (by rw [hzs]; exact List.mem_append.2 (.inl hx))
    have HN := hide (num_ok p 2 xs r0 _ hx (by omega) (by have := h.below hB; rw [hzs] at this; exact this) hx8)
    have hN : Crc.leV xs < 65536 := by have := Crc.leV_lt xs hx8; rw [hx] at this; exact this
    have hR0 : Rpt true zs (Crc.leV xs) [] r0 := ⟨by rw [show Crc.le 2 (Crc.leV xs) = xs by rw [← hx]; exact Crc.le_leV xs hx8, hzs]; rfl, hN, Nat.zero_le _, by intro e he; simp at he⟩
    have HR0 := hide hR0
    have HLz := hide hl
    generalize Crc.leV xs = N at *
    clear h hB hb0 hb1 hs1 hzs hx hx8 hR0 hl hsh
    go_enter Try.func17, Try.ntmps17
    go_wp2_with (go_at_call 56; refine (must_yes _ _ rfl _).mono ?_; rintro e w' ⟨rfl, rfl⟩)
    generalize (w.alloc (.cells #[.bool false, .slice none 0 0] 25)).alloc (.cells #[.bool true, .slice none 0 0] 25) = w1 at *
    refine HN.out.mono ?_
    rintro e w2 ⟨rfl, hrd, hg⟩
    have HG := hide hg
    have HRd := hide hrd
    clear hrd hg HN
    have hw2 : w.heap.size + 2 ≤ w2.heap.size := by have := HG.out.size; have := HS1.out; omega
    have HKb0 : Hid (Kb w.heap.size p w w2) := hide ((Kb.of_below HB.out (Nat.le_refl _)).trans (Kb.of_grown HG.out HB.out.size))
    have HX0 := hide ((HG.out.block _ (lt_of_block HB0.out) (by simp; omega)).trans HB0.out)
    have HX1 := hide ((HG.out.block _ (lt_of_block HB1.out) (by simp; omega)).trans HB1.out)
    go_wp2
    go_loopw [19] (fun i wr => ∃ (k : Nat) (ys : List En) (rest : List Int) (a3 : Option Addr) (c3 : Nat), k ≤ N ∧ i = .int .u32 (k : Int) ∧ Hid (ys.length = k) ∧ Rpt true zs N (ers ys) rest ∧ wr.heap[w.heap.size]? = some (.cells #[.bool false, .slice none 0 0] 25 (0, 0)) ∧ wr.heap[w.heap.size + 1]? = some (.cells #[.bool true, .slice a3 k c3] 25 (0, 0)) ∧ Cl (w.heap.size + 2) wr (.slice a3 k c3) ys ∧ Rdr wr p rest ∧ Kb w.heap.size p w wr ∧ w.heap.size + 2 ≤ wr.heap.size) (fun i _ => N - (intOf i).toNat)
    case atStart => exact ⟨0, [], r0, none, 0, Nat.zero_le _, rfl, rfl, HR0.out, HX0.out, HX1.out, ⟨⟨rfl, .inl ⟨rfl, rfl⟩⟩, (by intro y hy; simp at hy), (by intro i j yi yj k hi; simp at hi)⟩, HRd.out, HKb0.out, hw2⟩
    case round =>
      obtain ⟨k, ys, rest, a3, c3, hk, rfl, hyk, hrp, hx0, hx1, hcl, hrd, hkb, hsz⟩ := hrel
      have HRp := hide hrp
      have HX0 := hide hx0
      have HX1 := hide hx1
      have HCl := hide hcl
      have HRd := hide hrd
      have HKb := hide hkb
      clear hrp hx0 hx1 hcl hrd hkb
      by_cases hlt : k < N
      · have HC := hide (rentry_any true p rest wr.drew (HRd.out.below (Below.refl _ _).drew))
        have d1 : (k : Int) < (N : Int) := by omega
        have hpB : p < w.heap.size := hpw
        have HClC : Hid (∀ V, wr.drew.grownBy V (some p) → Cl (w.heap.size + 2) V (.slice a3 k c3) ys) := hide fun V hV => HCl.out.of_block (fun j hj => hV.block j (HCl.out.block hj).2.1 (by have := (HCl.out.block hj).1; simp; omega)) (fun z hz j hj => hV.block j ((HCl.out.each z hz).lt hj) (by have := (HCl.out.each z hz).ge hj; simp; omega))
        have HUp : Hid (∀ j, ((Value.slice a3 k c3).ownBlock = some j ∨ ∃ z ∈ ys, z.has j) → j < wr.heap.size) := hide fun j hj => hj.elim (fun h => (HCl.out.block h).2.1) (fun ⟨z, hz, h⟩ => (HCl.out.each z hz).lt h)
        have HSt : Hid (∀ V, wr.drew.grownBy V (some p) → V.heap[w.heap.size + 1]? = some (.cells #[.bool true, .slice a3 k c3] 25 (0, 0))) := hide fun V hV => (hV.block _ (lt_of_block HX1.out) (by simp; omega)).trans HX1.out
        go_wp2
        refine wp_region_held_drew (S := (fun V => V.cell? ⟨w.heap.size + 1, 0, none⟩ = some (.bool true))) (by kernel_rfl) (by exact (cells_two (HSt.out _ (grown_refl _ _))).1) (fun _hS => ?_)
        refine wpAnyH_take (i := 0) (v := ?v0x1) rfl (by kernel_rfl) (by kernel_rfl) (by kernel_rfl) (fun _ _ _ h => h) (Or.inl ⟨by rfl, ?hy0x1⟩) (by assumption) ?rest0x1
        case hy0x1 => (intro w hSw; (try dsimp only at hSw); (first | (go_simp; with_reducible rfl) | go_simp))
        try simp only [Act.put, List.setIfInBounds_toArray]
        refine wpAnyH_take (i := 2) (v := ?v2x2) rfl (by kernel_rfl) (by kernel_rfl) (by kernel_rfl) (fun _ _ _ h => h) (Or.inl ⟨by rfl, ?hy2x2⟩) (by assumption) ?rest2x2
        case hy2x2 => (intro w hSw; (try dsimp only at hSw); (first | (go_simp; with_reducible rfl) | go_simp))
        try simp only [Act.put]
        refine wpAnyH_take (i := 3) (v := ?v3x3) rfl (by kernel_rfl) (by kernel_rfl) (by kernel_rfl) (fun _ _ _ h => h) (Or.inl ⟨by rfl, ?hy3x3⟩) (by assumption) ?rest3x3
        case hy3x3 => (intro w hSw; (try dsimp only at hSw); (first | (go_simp; with_reducible rfl) | go_simp))
        try simp only [Act.put]
        refine wpAnyH_take (i := 4) (v := ?v4x4) rfl (by kernel_rfl) (by kernel_rfl) (by kernel_rfl) (fun _ _ _ h => h) (Or.inl ⟨by rfl, ?hy4x4⟩) (by assumption) ?rest4x4
        case hy4x4 => (intro w hSw; (try dsimp only at hSw); (first | (go_simp; with_reducible rfl) | go_simp))
        try simp only [Act.put]
        refine wpAnyH_ready (rs := [1, 5]) (by kernel_rfl) (by simp) ?_
        refine AllReadyH.cons rfl (fun K' hK => ?_) (AllReadyH.cons rfl (fun K' hK => ?_) AllReadyH.nil)
        · have q1 := (cells_two (HSt.out _ (grown_refl _ _))).2.1
          go_simp
          refine hK.out _ _ (by exact (cells_two (HSt.out _ (grown_refl _ _))).1) (fun _hS => ?_)
          clear hK K' q1
          try simp only [Act.put, List.setIfInBounds_toArray, List.set_cons_zero, List.set_cons_succ]
          refine wpAnyH_ready (rs := [5]) (by kernel_rfl) (by simp) ?_
          refine AllReadyH.cons rfl (fun K' hK => ?_) AllReadyH.nil
          go_simp
          refine HC.out.mono ?_
          rintro e w3 ⟨hg3, ho⟩
          rcases ho with ⟨y, rest', rfl, hre, hok, hyo, hrd3⟩ | ⟨rfl, hno⟩
          rotate_left
          · have hk3 := HKb.out.trans (Kb.of_grown (w := wr) (w' := w3) (p := p) ⟨hg3.os, hg3.tape, hg3.output, hg3.size, hg3.block⟩ (by omega))
            refine ⟨rfl, hk3.grown, .inr ⟨rfl, HRp.out.stuck (by rw [ers_len, hyk.out]; exact hlt) hno⟩⟩
          simp only [En.v]
          have HRp3 := hide (HRp.out.more hok hre (by rw [ers_len, hyk.out]; exact hlt))
          have HYo := hide hyo
          have HRd3 := hide hrd3
          have HG3 := hide hg3
          refine hK.out _ _ (by exact (cells_two (HSt.out w3 HG3.out)).1) (fun _hS => ?_)
          clear hK K' hre hok hyo hrd3 hg3
          try simp only [Act.put, List.setIfInBounds_toArray, List.set_cons_zero, List.set_cons_succ]
          have hb4 := below_alloc w3 (.cells #[.slice y.ka y.e.key.length y.kc, .slice y.va y.e.val.length y.vc, .int .u32 (y.e.page : Int), .int .u32 (y.e.size : Int)] 68)
          have HBx := hide (box_news w3 y)
          have HX4 := hide ((hb4.block _ (lt_of_block (HSt.out w3 HG3.out))).trans (HSt.out w3 HG3.out))
          have HCl4 := hide ((HClC.out w3 HG3.out).below hb4)
          have HYo4 := hide (HYo.out.below hb4)
          have HRd4 := hide (HRd3.out.below hb4)
          have HB4 := hide hb4
          have hs3 : wr.heap.size ≤ w3.heap.size := HG3.out.size
          have HS4 : Hid ((w3.alloc (.cells #[.slice y.ka y.e.key.length y.kc, .slice y.va y.e.val.length y.vc, .int .u32 (y.e.page : Int), .int .u32 (y.e.size : Int)] 68)).heap.size = w3.heap.size + 1) := by rw [Hid]; simp
          clear hb4
          refine wpAnyH_ready (rs := [6]) (by kernel_rfl) (by simp) ?_
          refine AllReadyH.cons rfl (fun K' hK => ?_) AllReadyH.nil
          go_simp
          refine hK.out _ _ (by exact (cells_two HX4.out).1) (fun _hS => ?_)
          clear hK K'
          try simp only [Act.put, List.setIfInBounds_toArray, List.set_cons_zero, List.set_cons_succ]
          refine wpAnyH_ready (rs := [7]) (by kernel_rfl) (by simp) ?_
          refine AllReadyH.cons rfl (fun K' hK => ?_) AllReadyH.nil
          have HRow4 : Hid ((w3.alloc (.cells #[.slice y.ka y.e.key.length y.kc, .slice y.va y.e.val.length y.vc, .int .u32 (y.e.page : Int), .int .u32 (y.e.size : Int)] 68)).ownsRow (w.heap.size + 2) 68 4 (.slice a3 k c3) k (rowc ys)) := by have h1 := HCl4.out.row; rw [hyk.out] at h1; exact h1
          refine step_append_own _ (by rfl) (.tmp 22) (.tmp 27) 23 (by rfl) (w.heap.size + 2) 68 i0 _ 4 56 Try.underlying23 hi hz0 hz1 hz2 (by rfl) (by omega) (.slice a3 k c3) k (rowc ys) (by rfl) HRow4.out ⟨w3.heap.size, 0, none⟩ 1 1 y.cells (by rfl) (by rfl) HBx.out (cells_one y) (by unfold maxLen; omega) (by omega) (by rw [HS4.out]; omega) ?_
          intro v' w4 hown4 hg4 hn4
          have hC4 := HCl4.out.snoc2 (y := y) (C := wr.heap.size) HUp.out hsz HYo4.out hg4 (by rw [hyk.out]; exact hown4)
          obtain ⟨a4, c4, rfl, -⟩ := hC4.ens
          have hl4 : (ys ++ [y]).length = k + 1 := by simp [hyk.out]
          rw [hl4] at hC4 ⊢
          have hx4 := (hg4.block _ (lt_of_block HX4.out) (fun e => (HCl4.out.noNode HX4.out).1 e.symm)).trans HX4.out
          obtain ⟨t0, t1, tt0⟩ := cells_two hx4
          have tt1 := frozen_blk (j := 1) hx4
          have HX5 := hide hx4
          have HC5 := hide hC4
          have HG4 := hide hg4
          have HL4 := hide hl4
          refine hK.out _ _ (by exact t0) (fun _hS => ?_)
          clear hK K' hown4 hg4 hn4 hC4 hx4 hl4
          try simp only [Act.put, List.setIfInBounds_toArray]
          refine wpAnyH_take (i := 8) (v := ?v8x5) rfl (by kernel_rfl) (by kernel_rfl) (by kernel_rfl) (fun _ _ _ h => h) (Or.inl ⟨by rfl, ?hy8x5⟩) (by assumption) ?rest8x5
          case hy8x5 => (intro w hSw; (try dsimp only at hSw); (first | (go_simp; with_reducible rfl) | go_simp))
          try simp only [Act.put]
          refine wpAnyH_ready (rs := [9]) (by kernel_rfl) (by simp) ?_
          refine AllReadyH.cons rfl (fun K' hK => ?_) AllReadyH.nil
          go_simp
          have HX6 := hide (one_set2 (v := (.slice a4 (k + 1) c4)) HX5.out)
          refine hK.out _ _ (by exact (cells_two HX6.out).1) (fun _hS => ?_)
          clear hK K' _hS t0 t1 tt0 tt1
          try simp only [Act.put, List.setIfInBounds_toArray, List.set_cons_zero, List.set_cons_succ]
          refine wpAnyH_done (by kernel_rfl) ?_ _
          go_wp2
          go_roundw
          case rel =>
            have hs4 : w3.heap.size + 1 ≤ w4.heap.size := by have := HG4.out.size; rw [HS4.out] at this; exact this
            have hst : ∀ j, j < w3.heap.size → (Value.slice a3 k c3).ownBlock ≠ some j → j ≠ w.heap.size + 1 → (w4.setCell ⟨w.heap.size + 1, 1, none⟩ (.slice a4 (k + 1) c4)).heap[j]? = w3.heap[j]? := fun j hj h1 h2 => (Below.heap_setCell _ _ _ _ h2).trans ((HG4.out.block j (by rw [HS4.out]; omega) (fun e => h1 e.symm)).trans (HB4.out.block j hj))
            have hob : ∀ j, j < w.heap.size + 2 → (Value.slice a3 k c3).ownBlock ≠ some j := fun j hj e => by have := (HCl.out.block e).1; omega
            refine ⟨k + 1, ys ++ [y], rest', a4, c4, by omega, by go_num, HL4.out, by rw [ers_app]; exact HRp3.out, ?_, HX6.out, ?_, ?_, ?_, by simp [World.setCell]; omega⟩
            · exact (hst _ (by omega) (hob _ (by omega)) (by omega)).trans ((HG3.out.block _ (lt_of_block HX0.out) (by simp; omega)).trans HX0.out)
            · exact HC5.out.offNode HX5.out (fun j hj => Below.heap_setCell _ _ _ _ hj)
            · obtain ⟨ra, rn, rcc, hrd⟩ := HRd3.out
              have hpl := hrd.lt
              refine ⟨ra, rn, rcc, (hst p (by omega) (hob p (by omega)) (by omega)).trans hrd.blk, hrd.len, hrd.cap, hrd.max, hrd.bare, ?_, hrd.byts⟩
              rcases hrd.row with h0 | ⟨b, off, e, hlt2, hne, hcc⟩
              · exact .inl h0
              · exact .inr ⟨b, off, e, by simp [World.setCell]; omega, hne, fun j hj => by
                  have := hst b (by omega) (hob b (by omega)) (by omega)
                  rw [← hcc j hj]
                  simp only [World.cell?]
                  rw [this]⟩
            · have h1 := HKb.out.trans (Kb.of_grown (w := wr) (w' := w3) (p := p) ⟨HG3.out.os, HG3.out.tape, HG3.out.output, HG3.out.size, HG3.out.block⟩ (by omega))
              refine h1.trans ⟨HG4.out.os, HG4.out.tape, HG4.out.output, by simp [World.setCell]; omega, fun j hj _ => hst j (by omega) (hob j (by omega)) (by omega)⟩
          case measure => simp [intOf]; omega
        · go_simp
          refine HC.out.mono ?_
          rintro e w3 ⟨hg3, ho⟩
          rcases ho with ⟨y, rest', rfl, hre, hok, hyo, hrd3⟩ | ⟨rfl, hno⟩
          rotate_left
          · have hk3 := HKb.out.trans (Kb.of_grown (w := wr) (w' := w3) (p := p) ⟨hg3.os, hg3.tape, hg3.output, hg3.size, hg3.block⟩ (by omega))
            refine ⟨rfl, hk3.grown, .inr ⟨rfl, HRp.out.stuck (by rw [ers_len, hyk.out]; exact hlt) hno⟩⟩
          simp only [En.v]
          have HRp3 := hide (HRp.out.more hok hre (by rw [ers_len, hyk.out]; exact hlt))
          have HYo := hide hyo
          have HRd3 := hide hrd3
          have HG3 := hide hg3
          refine hK.out _ _ (by exact (cells_two (HSt.out w3 HG3.out)).1) (fun _hS => ?_)
          clear hK K' hre hok hyo hrd3 hg3
          try simp only [Act.put, List.setIfInBounds_toArray, List.set_cons_zero, List.set_cons_succ]
          have hb4 := below_alloc w3 (.cells #[.slice y.ka y.e.key.length y.kc, .slice y.va y.e.val.length y.vc, .int .u32 (y.e.page : Int), .int .u32 (y.e.size : Int)] 68)
          have HBx := hide (box_news w3 y)
          have HX4 := hide ((hb4.block _ (lt_of_block (HSt.out w3 HG3.out))).trans (HSt.out w3 HG3.out))
          have HCl4 := hide ((HClC.out w3 HG3.out).below hb4)
          have HYo4 := hide (HYo.out.below hb4)
          have HRd4 := hide (HRd3.out.below hb4)
          have HB4 := hide hb4
          have hs3 : wr.heap.size ≤ w3.heap.size := HG3.out.size
          have HS4 : Hid ((w3.alloc (.cells #[.slice y.ka y.e.key.length y.kc, .slice y.va y.e.val.length y.vc, .int .u32 (y.e.page : Int), .int .u32 (y.e.size : Int)] 68)).heap.size = w3.heap.size + 1) := by rw [Hid]; simp
          clear hb4
          refine wpAnyH_ready (rs := [1, 6]) (by kernel_rfl) (by simp) ?_
          refine AllReadyH.cons rfl (fun K' hK => ?_) (AllReadyH.cons rfl (fun K' hK => ?_) AllReadyH.nil)
          · have q1 := (cells_two (HSt.out _ (HG3.out))).2.1
            go_simp
            refine hK.out _ _ (by exact (cells_two (HSt.out _ (HG3.out))).1) (fun _hS => ?_)
            clear hK K' q1
            try simp only [Act.put, List.setIfInBounds_toArray, List.set_cons_zero, List.set_cons_succ]
            refine wpAnyH_ready (rs := [6]) (by kernel_rfl) (by simp) ?_
            refine AllReadyH.cons rfl (fun K' hK => ?_) AllReadyH.nil
            go_simp
            refine hK.out _ _ (by exact (cells_two HX4.out).1) (fun _hS => ?_)
            clear hK K'
            try simp only [Act.put, List.setIfInBounds_toArray, List.set_cons_zero, List.set_cons_succ]
            refine wpAnyH_ready (rs := [7]) (by kernel_rfl) (by simp) ?_
            refine AllReadyH.cons rfl (fun K' hK => ?_) AllReadyH.nil
            have HRow4 : Hid ((w3.alloc (.cells #[.slice y.ka y.e.key.length y.kc, .slice y.va y.e.val.length y.vc, .int .u32 (y.e.page : Int), .int .u32 (y.e.size : Int)] 68)).ownsRow (w.heap.size + 2) 68 4 (.slice a3 k c3) k (rowc ys)) := by have h1 := HCl4.out.row; rw [hyk.out] at h1; exact h1
            refine step_append_own _ (by rfl) (.tmp 22) (.tmp 27) 23 (by rfl) (w.heap.size + 2) 68 i0 _ 4 56 Try.underlying23 hi hz0 hz1 hz2 (by rfl) (by omega) (.slice a3 k c3) k (rowc ys) (by rfl) HRow4.out ⟨w3.heap.size, 0, none⟩ 1 1 y.cells (by rfl) (by rfl) HBx.out (cells_one y) (by unfold maxLen; omega) (by omega) (by rw [HS4.out]; omega) ?_
            intro v' w4 hown4 hg4 hn4
            have hC4 := HCl4.out.snoc2 (y := y) (C := wr.heap.size) HUp.out hsz HYo4.out hg4 (by rw [hyk.out]; exact hown4)
            obtain ⟨a4, c4, rfl, -⟩ := hC4.ens
            have hl4 : (ys ++ [y]).length = k + 1 := by simp [hyk.out]
            rw [hl4] at hC4 ⊢
            have hx4 := (hg4.block _ (lt_of_block HX4.out) (fun e => (HCl4.out.noNode HX4.out).1 e.symm)).trans HX4.out
            obtain ⟨t0, t1, tt0⟩ := cells_two hx4
            have tt1 := frozen_blk (j := 1) hx4
            have HX5 := hide hx4
            have HC5 := hide hC4
            have HG4 := hide hg4
            have HL4 := hide hl4
            refine hK.out _ _ (by exact t0) (fun _hS => ?_)
            clear hK K' hown4 hg4 hn4 hC4 hx4 hl4
            try simp only [Act.put, List.setIfInBounds_toArray]
            refine wpAnyH_take (i := 8) (v := ?v8x6) rfl (by kernel_rfl) (by kernel_rfl) (by kernel_rfl) (fun _ _ _ h => h) (Or.inl ⟨by rfl, ?hy8x6⟩) (by assumption) ?rest8x6
            case hy8x6 => (intro w hSw; (try dsimp only at hSw); (first | (go_simp; with_reducible rfl) | go_simp))
            try simp only [Act.put]
            refine wpAnyH_ready (rs := [9]) (by kernel_rfl) (by simp) ?_
            refine AllReadyH.cons rfl (fun K' hK => ?_) AllReadyH.nil
            go_simp
            have HX6 := hide (one_set2 (v := (.slice a4 (k + 1) c4)) HX5.out)
            refine hK.out _ _ (by exact (cells_two HX6.out).1) (fun _hS => ?_)
            clear hK K' _hS t0 t1 tt0 tt1
            try simp only [Act.put, List.setIfInBounds_toArray, List.set_cons_zero, List.set_cons_succ]
            refine wpAnyH_done (by kernel_rfl) ?_ _
            go_wp2
            go_roundw
            case rel =>
              have hs4 : w3.heap.size + 1 ≤ w4.heap.size := by have := HG4.out.size; rw [HS4.out] at this; exact this
              have hst : ∀ j, j < w3.heap.size → (Value.slice a3 k c3).ownBlock ≠ some j → j ≠ w.heap.size + 1 → (w4.setCell ⟨w.heap.size + 1, 1, none⟩ (.slice a4 (k + 1) c4)).heap[j]? = w3.heap[j]? := fun j hj h1 h2 => (Below.heap_setCell _ _ _ _ h2).trans ((HG4.out.block j (by rw [HS4.out]; omega) (fun e => h1 e.symm)).trans (HB4.out.block j hj))
              have hob : ∀ j, j < w.heap.size + 2 → (Value.slice a3 k c3).ownBlock ≠ some j := fun j hj e => by have := (HCl.out.block e).1; omega
              refine ⟨k + 1, ys ++ [y], rest', a4, c4, by omega, by go_num, HL4.out, by rw [ers_app]; exact HRp3.out, ?_, HX6.out, ?_, ?_, ?_, by simp [World.setCell]; omega⟩
              · exact (hst _ (by omega) (hob _ (by omega)) (by omega)).trans ((HG3.out.block _ (lt_of_block HX0.out) (by simp; omega)).trans HX0.out)
              · exact HC5.out.offNode HX5.out (fun j hj => Below.heap_setCell _ _ _ _ hj)
              · obtain ⟨ra, rn, rcc, hrd⟩ := HRd3.out
                have hpl := hrd.lt
                refine ⟨ra, rn, rcc, (hst p (by omega) (hob p (by omega)) (by omega)).trans hrd.blk, hrd.len, hrd.cap, hrd.max, hrd.bare, ?_, hrd.byts⟩
                rcases hrd.row with h0 | ⟨b, off, e, hlt2, hne, hcc⟩
                · exact .inl h0
                · exact .inr ⟨b, off, e, by simp [World.setCell]; omega, hne, fun j hj => by
                    have := hst b (by omega) (hob b (by omega)) (by omega)
                    rw [← hcc j hj]
                    simp only [World.cell?]
                    rw [this]⟩
              · have h1 := HKb.out.trans (Kb.of_grown (w := wr) (w' := w3) (p := p) ⟨HG3.out.os, HG3.out.tape, HG3.out.output, HG3.out.size, HG3.out.block⟩ (by omega))
                refine h1.trans ⟨HG4.out.os, HG4.out.tape, HG4.out.output, by simp [World.setCell]; omega, fun j hj _ => hst j (by omega) (hob j (by omega)) (by omega)⟩
            case measure => simp [intOf]; omega
          · go_simp
            refine hK.out _ _ (by exact (cells_two HX4.out).1) (fun _hS => ?_)
            clear hK K'
            try simp only [Act.put, List.setIfInBounds_toArray, List.set_cons_zero, List.set_cons_succ]
            refine wpAnyH_ready (rs := [1]) (by kernel_rfl) (by simp) ?_
            refine AllReadyH.cons rfl (fun K' hK => ?_) AllReadyH.nil
            have q1 := (cells_two HX4.out).2.1
            go_simp
            refine hK.out _ _ (by exact (cells_two HX4.out).1) (fun _hS => ?_)
            clear hK K' q1
            try simp only [Act.put, List.setIfInBounds_toArray, List.set_cons_zero, List.set_cons_succ]
            refine wpAnyH_ready (rs := [7]) (by kernel_rfl) (by simp) ?_
            refine AllReadyH.cons rfl (fun K' hK => ?_) AllReadyH.nil
            have HRow4 : Hid ((w3.alloc (.cells #[.slice y.ka y.e.key.length y.kc, .slice y.va y.e.val.length y.vc, .int .u32 (y.e.page : Int), .int .u32 (y.e.size : Int)] 68)).ownsRow (w.heap.size + 2) 68 4 (.slice a3 k c3) k (rowc ys)) := by have h1 := HCl4.out.row; rw [hyk.out] at h1; exact h1
            refine step_append_own _ (by rfl) (.tmp 22) (.tmp 27) 23 (by rfl) (w.heap.size + 2) 68 i0 _ 4 56 Try.underlying23 hi hz0 hz1 hz2 (by rfl) (by omega) (.slice a3 k c3) k (rowc ys) (by rfl) HRow4.out ⟨w3.heap.size, 0, none⟩ 1 1 y.cells (by rfl) (by rfl) HBx.out (cells_one y) (by unfold maxLen; omega) (by omega) (by rw [HS4.out]; omega) ?_
            intro v' w4 hown4 hg4 hn4
            have hC4 := HCl4.out.snoc2 (y := y) (C := wr.heap.size) HUp.out hsz HYo4.out hg4 (by rw [hyk.out]; exact hown4)
            obtain ⟨a4, c4, rfl, -⟩ := hC4.ens
            have hl4 : (ys ++ [y]).length = k + 1 := by simp [hyk.out]
            rw [hl4] at hC4 ⊢
            have hx4 := (hg4.block _ (lt_of_block HX4.out) (fun e => (HCl4.out.noNode HX4.out).1 e.symm)).trans HX4.out
            obtain ⟨t0, t1, tt0⟩ := cells_two hx4
            have tt1 := frozen_blk (j := 1) hx4
            have HX5 := hide hx4
            have HC5 := hide hC4
            have HG4 := hide hg4
            have HL4 := hide hl4
            refine hK.out _ _ (by exact t0) (fun _hS => ?_)
            clear hK K' hown4 hg4 hn4 hC4 hx4 hl4
            try simp only [Act.put, List.setIfInBounds_toArray]
            refine wpAnyH_take (i := 8) (v := ?v8x7) rfl (by kernel_rfl) (by kernel_rfl) (by kernel_rfl) (fun _ _ _ h => h) (Or.inl ⟨by rfl, ?hy8x7⟩) (by assumption) ?rest8x7
            case hy8x7 => (intro w hSw; (try dsimp only at hSw); (first | (go_simp; with_reducible rfl) | go_simp))
            try simp only [Act.put]
            refine wpAnyH_ready (rs := [9]) (by kernel_rfl) (by simp) ?_
            refine AllReadyH.cons rfl (fun K' hK => ?_) AllReadyH.nil
            go_simp
            have HX6 := hide (one_set2 (v := (.slice a4 (k + 1) c4)) HX5.out)
            refine hK.out _ _ (by exact (cells_two HX6.out).1) (fun _hS => ?_)
            clear hK K' _hS t0 t1 tt0 tt1
            try simp only [Act.put, List.setIfInBounds_toArray, List.set_cons_zero, List.set_cons_succ]
            refine wpAnyH_done (by kernel_rfl) ?_ _
            go_wp2
            go_roundw
            case rel =>
              have hs4 : w3.heap.size + 1 ≤ w4.heap.size := by have := HG4.out.size; rw [HS4.out] at this; exact this
              have hst : ∀ j, j < w3.heap.size → (Value.slice a3 k c3).ownBlock ≠ some j → j ≠ w.heap.size + 1 → (w4.setCell ⟨w.heap.size + 1, 1, none⟩ (.slice a4 (k + 1) c4)).heap[j]? = w3.heap[j]? := fun j hj h1 h2 => (Below.heap_setCell _ _ _ _ h2).trans ((HG4.out.block j (by rw [HS4.out]; omega) (fun e => h1 e.symm)).trans (HB4.out.block j hj))
              have hob : ∀ j, j < w.heap.size + 2 → (Value.slice a3 k c3).ownBlock ≠ some j := fun j hj e => by have := (HCl.out.block e).1; omega
              refine ⟨k + 1, ys ++ [y], rest', a4, c4, by omega, by go_num, HL4.out, by rw [ers_app]; exact HRp3.out, ?_, HX6.out, ?_, ?_, ?_, by simp [World.setCell]; omega⟩
              · exact (hst _ (by omega) (hob _ (by omega)) (by omega)).trans ((HG3.out.block _ (lt_of_block HX0.out) (by simp; omega)).trans HX0.out)
              · exact HC5.out.offNode HX5.out (fun j hj => Below.heap_setCell _ _ _ _ hj)
              · obtain ⟨ra, rn, rcc, hrd⟩ := HRd3.out
                have hpl := hrd.lt
                refine ⟨ra, rn, rcc, (hst p (by omega) (hob p (by omega)) (by omega)).trans hrd.blk, hrd.len, hrd.cap, hrd.max, hrd.bare, ?_, hrd.byts⟩
                rcases hrd.row with h0 | ⟨b, off, e, hlt2, hne, hcc⟩
                · exact .inl h0
                · exact .inr ⟨b, off, e, by simp [World.setCell]; omega, hne, fun j hj => by
                    have := hst b (by omega) (hob b (by omega)) (by omega)
                    rw [← hcc j hj]
                    simp only [World.cell?]
                    rw [this]⟩
              · have h1 := HKb.out.trans (Kb.of_grown (w := wr) (w' := w3) (p := p) ⟨HG3.out.os, HG3.out.tape, HG3.out.output, HG3.out.size, HG3.out.block⟩ (by omega))
                refine h1.trans ⟨HG4.out.os, HG4.out.tape, HG4.out.output, by simp [World.setCell]; omega, fun j hj _ => hst j (by omega) (hob j (by omega)) (by omega)⟩
            case measure => simp [intOf]; omega
      · obtain rfl : k = N := by omega
        obtain ⟨ra, rn, rcc, hrd⟩ := HRd.out
        have rc0 := hrd.c0
        have hrl := hrd.len
        have HRl := hide hrl
        obtain ⟨f0, f1, ff0⟩ := cells_two HX1.out
        by_cases hr0 : rn = 0
        rotate_left
        · have d2 : ((rn : Int) == 0) = false := by simp; omega
          have d3 : ¬ (rn : Int) = 0 := by omega
          have d4 : decide ((rn : Int) = 0) = false := decide_eq_false d3
          have d5 : decide (rn = 0) = false := decide_eq_false hr0
          have HRn := hide hr0
          clear hrd hrl hr0
          go_wp2_with fail
          refine (must_no _ _ rfl _).mono ?_
          rintro e w5 ⟨rfl, rfl⟩
          refine ⟨rfl, ?_, .inr ⟨rfl, HRp.out.long (by rw [ers_len]; exact hyk.out) (fun e => HRn.out (by have := HRl.out; rw [e] at this; simpa using this.symm))⟩⟩
          exact HKb.out.grown
        · subst hr0
          have hre : rest = [] := List.eq_nil_of_length_eq_zero hrl
          subst hre
          obtain ⟨ae, ce, hev, hens⟩ := HCl.out.ens
          rw [hyk.out] at hev hens
          cases hev
          have hwt : wts (ers ys) ≤ 100000 := by
            have h1 := wts_encs HRp.out.rok
            have h2 := congrArg List.length HRp.out.eq
            have h3 := HLz.out
            simp at h2
            omega
          have HCk := hide (fun V (hV : Below wr.heap.size wr V) => check_any true a3 k c3 ys V (hens.below hV) (by omega) (by omega))
          have HLk : Hid ((ers ys).length = k) := by rw [ers_len]; exact hyk.out
          have HRd2 := hide hrd
          clear hrd hens hwt hrl
          go_wp2_with fail
          refine (must_yes _ _ rfl _).mono ?_
          rintro e w5 ⟨rfl, rfl⟩
          go_wp2_with fail
          refine (HCk.out _ (Below.refl _ _)).mono ?_
          rintro e w6 ⟨rfl, hb6⟩
          have hy0 := (hb6.block _ (lt_of_block HX0.out)).trans HX0.out
          have hy1 := (hb6.block _ (lt_of_block HX1.out)).trans HX1.out
          clear f0 f1 ff0
          obtain ⟨g0, g1, -⟩ := cells_two hy1
          obtain ⟨z0, z1, zz0⟩ := cells_two hy0
          have zz1 := frozen_blk (j := 1) hy0
          have HY0 := hide hy0
          have HB6 := hide hb6
          clear hb6 hy0 hy1
          have k1 := HKb.out.trans (Kb.of_below HB6.out (by omega))
          have HK1 := hide k1
          clear k1
          by_cases hc : chk true (ers ys) = 0
          · rw [hc]
            go_wp2_with (go_at_call 56; refine (must_yes _ _ rfl _).mono ?_; rintro e w7 ⟨rfl, rfl⟩)
            have hf := two_set (u := .bool true) (v := .slice a3 k c3) HY0.out
            obtain ⟨q0, q1, -⟩ := cells_two hf
            refine bodyPost_ret (v := .agg #[.bool true, .slice a3 k c3]) ?_ rfl ?_
            · simp [results, Try.results17, go_sem, q0, q1]
            · refine ⟨?_, .inl ⟨_, ys, rfl, HRp.out.good HLk.out hc, ((HCl.out.below HB6.out).other (fun j hj => two_other (by omega))).mono (by omega)⟩⟩
              exact ⟨HK1.out.os, HK1.out.tape, HK1.out.output, by have := HK1.out.size; simpa [World.setCell] using this, fun j hj h1 => (two_other (by omega)).trans (HK1.out.block j hj (by simpa using h1))⟩
          · obtain ⟨K1, hK1⟩ : ∃ K1, K1 = chk true (ers ys) := ⟨_, rfl⟩
            have HBd := hide (HRp.out.bad HLk.out hc)
            rw [← hK1] at hc ⊢
            have d2 : ((K1 : Int) == 0) = false := by simp; omega
            have d3 : ¬ (K1 : Int) = 0 := by omega
            have d4 : decide ((K1 : Int) = 0) = false := decide_eq_false d3
            have d5 : decide (K1 = 0) = false := decide_eq_false hc
            clear hK1 hc
            go_wp2_with fail
            refine (must_no _ _ rfl _).mono ?_
            rintro e w7 ⟨rfl, rfl⟩
            exact ⟨rfl, HK1.out.grown, .inr ⟨rfl, HBd.out⟩⟩
set_option maxHeartbeats 6400000 in
set_option maxRecDepth 1000000 in
theorem rnode_branch (p : Nat) (zs : List Int) (w : World) (h : Rdr w p zs) (hl : zs.length ≤ 100000) :
    Calls Try.prog 17 #[.pointer (some ⟨p, 0, none⟩), .int .u8 2] w fun e w' => NOut false p zs w e w' := by
  obtain ⟨i0, hi, hz0, hz1, hz2⟩ := info_parts Try.infoE
  obtain ⟨hB, hb0, hb1, hs1⟩ := pair_boxes w (.bool false) (.slice none 0 0) (.bool false) (.slice none 0 0)
  have hpw := h.lt
  have HB := hide hB
  have HB0 := hide hb0
  have HB1 := hide hb1
  have HS1 := hide hs1
  by_cases hsh : zs.length < 2
  · have HN := hide (num_no p 2 zs _ hsh (by omega) (h.below hB))
    clear h hB hb0 hb1 hs1
    go_enter Try.func17, Try.ntmps17
    go_wp2_with (go_at_call 56; refine (must_yes _ _ rfl _).mono ?_; rintro e w' ⟨rfl, rfl⟩)
    refine HN.out.mono ?_
    rintro e w2 ⟨rfl, hg⟩
    exact ⟨rfl, grown_trans (grown_below HB.out) hg, .inr ⟨rfl, short_no hsh⟩⟩
  · obtain ⟨xs, r0, hzs, hx⟩ : ∃ xs r0, zs = xs ++ r0 ∧ xs.length = 2 := ⟨zs.take 2, zs.drop 2, (List.take_append_drop 2 zs).symm, by simp; omega⟩
    have hx8 : Byts xs := fun x hx => h.byts x (by rw [hzs]; exact List.mem_append.2 (.inl hx))
    have HN := hide (num_ok p 2 xs r0 _ hx (by omega) (by have := h.below hB; rw [hzs] at this; exact this) hx8)
    have hN : Crc.leV xs < 65536 := by have := Crc.leV_lt xs hx8; rw [hx] at this; exact this
    have hR0 : Rpt false zs (Crc.leV xs) [] r0 := ⟨by rw [show Crc.le 2 (Crc.leV xs) = xs by rw [← hx]; exact Crc.le_leV xs hx8, hzs]; rfl, hN, Nat.zero_le _, by intro e he; simp at he⟩
    have HR0 := hide hR0
    have HLz := hide hl
    generalize Crc.leV xs = N at *
    clear h hB hb0 hb1 hs1 hzs hx hx8 hR0 hl hsh
    go_enter Try.func17, Try.ntmps17
    go_wp2_with (go_at_call 56; refine (must_yes _ _ rfl _).mono ?_; rintro e w' ⟨rfl, rfl⟩)
    generalize (w.alloc (.cells #[.bool false, .slice none 0 0] 25)).alloc (.cells #[.bool false, .slice none 0 0] 25) = w1 at *
    refine HN.out.mono ?_
    rintro e w2 ⟨rfl, hrd, hg⟩
    have HG := hide hg
    have HRd := hide hrd
    clear hrd hg HN
    have hw2 : w.heap.size + 2 ≤ w2.heap.size := by have := HG.out.size; have := HS1.out; omega
    have HKb0 : Hid (Kb w.heap.size p w w2) := hide ((Kb.of_below HB.out (Nat.le_refl _)).trans (Kb.of_grown HG.out HB.out.size))
    have HX0 := hide ((HG.out.block _ (lt_of_block HB0.out) (by simp; omega)).trans HB0.out)
    have HX1 := hide ((HG.out.block _ (lt_of_block HB1.out) (by simp; omega)).trans HB1.out)
    go_wp2
    go_loopw [19] (fun i wr => ∃ (k : Nat) (ys : List En) (rest : List Int) (a3 : Option Addr) (c3 : Nat), k ≤ N ∧ i = .int .u32 (k : Int) ∧ Hid (ys.length = k) ∧ Rpt false zs N (ers ys) rest ∧ wr.heap[w.heap.size]? = some (.cells #[.bool false, .slice none 0 0] 25 (0, 0)) ∧ wr.heap[w.heap.size + 1]? = some (.cells #[.bool false, .slice a3 k c3] 25 (0, 0)) ∧ Cl (w.heap.size + 2) wr (.slice a3 k c3) ys ∧ Rdr wr p rest ∧ Kb w.heap.size p w wr ∧ w.heap.size + 2 ≤ wr.heap.size) (fun i _ => N - (intOf i).toNat)
    case atStart => exact ⟨0, [], r0, none, 0, Nat.zero_le _, rfl, rfl, HR0.out, HX0.out, HX1.out, ⟨⟨rfl, .inl ⟨rfl, rfl⟩⟩, (by intro y hy; simp at hy), (by intro i j yi yj k hi; simp at hi)⟩, HRd.out, HKb0.out, hw2⟩
    case round =>
      obtain ⟨k, ys, rest, a3, c3, hk, rfl, hyk, hrp, hx0, hx1, hcl, hrd, hkb, hsz⟩ := hrel
      have HRp := hide hrp
      have HX0 := hide hx0
      have HX1 := hide hx1
      have HCl := hide hcl
      have HRd := hide hrd
      have HKb := hide hkb
      clear hrp hx0 hx1 hcl hrd hkb
      by_cases hlt : k < N
      · have HC := hide (rentry_any false p rest wr.drew (HRd.out.below (Below.refl _ _).drew))
        have d1 : (k : Int) < (N : Int) := by omega
        have hpB : p < w.heap.size := hpw
        have HClC : Hid (∀ V, wr.drew.grownBy V (some p) → Cl (w.heap.size + 2) V (.slice a3 k c3) ys) := hide fun V hV => HCl.out.of_block (fun j hj => hV.block j (HCl.out.block hj).2.1 (by have := (HCl.out.block hj).1; simp; omega)) (fun z hz j hj => hV.block j ((HCl.out.each z hz).lt hj) (by have := (HCl.out.each z hz).ge hj; simp; omega))
        have HUp : Hid (∀ j, ((Value.slice a3 k c3).ownBlock = some j ∨ ∃ z ∈ ys, z.has j) → j < wr.heap.size) := hide fun j hj => hj.elim (fun h => (HCl.out.block h).2.1) (fun ⟨z, hz, h⟩ => (HCl.out.each z hz).lt h)
        have HSt : Hid (∀ V, wr.drew.grownBy V (some p) → V.heap[w.heap.size + 1]? = some (.cells #[.bool false, .slice a3 k c3] 25 (0, 0))) := hide fun V hV => (hV.block _ (lt_of_block HX1.out) (by simp; omega)).trans HX1.out
        go_wp2
        refine wp_region_held_drew (S := (fun V => V.cell? ⟨w.heap.size + 1, 0, none⟩ = some (.bool false))) (by kernel_rfl) (by exact (cells_two (HSt.out _ (grown_refl _ _))).1) (fun _hS => ?_)
        refine wpAnyH_take (i := 0) (v := ?v0x8) rfl (by kernel_rfl) (by kernel_rfl) (by kernel_rfl) (fun _ _ _ h => h) (Or.inl ⟨by rfl, ?hy0x8⟩) (by assumption) ?rest0x8
        case hy0x8 => (intro w hSw; (try dsimp only at hSw); (first | (go_simp; with_reducible rfl) | go_simp))
        try simp only [Act.put, List.setIfInBounds_toArray]
        refine wpAnyH_take (i := 2) (v := ?v2x9) rfl (by kernel_rfl) (by kernel_rfl) (by kernel_rfl) (fun _ _ _ h => h) (Or.inl ⟨by rfl, ?hy2x9⟩) (by assumption) ?rest2x9
        case hy2x9 => (intro w hSw; (try dsimp only at hSw); (first | (go_simp; with_reducible rfl) | go_simp))
        try simp only [Act.put]
        refine wpAnyH_take (i := 3) (v := ?v3x10) rfl (by kernel_rfl) (by kernel_rfl) (by kernel_rfl) (fun _ _ _ h => h) (Or.inl ⟨by rfl, ?hy3x10⟩) (by assumption) ?rest3x10
        case hy3x10 => (intro w hSw; (try dsimp only at hSw); (first | (go_simp; with_reducible rfl) | go_simp))
        try simp only [Act.put]
        refine wpAnyH_take (i := 4) (v := ?v4x11) rfl (by kernel_rfl) (by kernel_rfl) (by kernel_rfl) (fun _ _ _ h => h) (Or.inl ⟨by rfl, ?hy4x11⟩) (by assumption) ?rest4x11
        case hy4x11 => (intro w hSw; (try dsimp only at hSw); (first | (go_simp; with_reducible rfl) | go_simp))
        try simp only [Act.put]
        refine wpAnyH_ready (rs := [1, 5]) (by kernel_rfl) (by simp) ?_
        refine AllReadyH.cons rfl (fun K' hK => ?_) (AllReadyH.cons rfl (fun K' hK => ?_) AllReadyH.nil)
        · have q1 := (cells_two (HSt.out _ (grown_refl _ _))).2.1
          go_simp
          refine hK.out _ _ (by exact (cells_two (HSt.out _ (grown_refl _ _))).1) (fun _hS => ?_)
          clear hK K' q1
          try simp only [Act.put, List.setIfInBounds_toArray, List.set_cons_zero, List.set_cons_succ]
          refine wpAnyH_ready (rs := [5]) (by kernel_rfl) (by simp) ?_
          refine AllReadyH.cons rfl (fun K' hK => ?_) AllReadyH.nil
          go_simp
          refine HC.out.mono ?_
          rintro e w3 ⟨hg3, ho⟩
          rcases ho with ⟨y, rest', rfl, hre, hok, hyo, hrd3⟩ | ⟨rfl, hno⟩
          rotate_left
          · have hk3 := HKb.out.trans (Kb.of_grown (w := wr) (w' := w3) (p := p) ⟨hg3.os, hg3.tape, hg3.output, hg3.size, hg3.block⟩ (by omega))
            refine ⟨rfl, hk3.grown, .inr ⟨rfl, HRp.out.stuck (by rw [ers_len, hyk.out]; exact hlt) hno⟩⟩
          simp only [En.v]
          have HRp3 := hide (HRp.out.more hok hre (by rw [ers_len, hyk.out]; exact hlt))
          have HYo := hide hyo
          have HRd3 := hide hrd3
          have HG3 := hide hg3
          refine hK.out _ _ (by exact (cells_two (HSt.out w3 HG3.out)).1) (fun _hS => ?_)
          clear hK K' hre hok hyo hrd3 hg3
          try simp only [Act.put, List.setIfInBounds_toArray, List.set_cons_zero, List.set_cons_succ]
          have hb4 := below_alloc w3 (.cells #[.slice y.ka y.e.key.length y.kc, .slice y.va y.e.val.length y.vc, .int .u32 (y.e.page : Int), .int .u32 (y.e.size : Int)] 68)
          have HBx := hide (box_news w3 y)
          have HX4 := hide ((hb4.block _ (lt_of_block (HSt.out w3 HG3.out))).trans (HSt.out w3 HG3.out))
          have HCl4 := hide ((HClC.out w3 HG3.out).below hb4)
          have HYo4 := hide (HYo.out.below hb4)
          have HRd4 := hide (HRd3.out.below hb4)
          have HB4 := hide hb4
          have hs3 : wr.heap.size ≤ w3.heap.size := HG3.out.size
          have HS4 : Hid ((w3.alloc (.cells #[.slice y.ka y.e.key.length y.kc, .slice y.va y.e.val.length y.vc, .int .u32 (y.e.page : Int), .int .u32 (y.e.size : Int)] 68)).heap.size = w3.heap.size + 1) := by rw [Hid]; simp
          clear hb4
          refine wpAnyH_ready (rs := [6]) (by kernel_rfl) (by simp) ?_
          refine AllReadyH.cons rfl (fun K' hK => ?_) AllReadyH.nil
          go_simp
          refine hK.out _ _ (by exact (cells_two HX4.out).1) (fun _hS => ?_)
          clear hK K'
          try simp only [Act.put, List.setIfInBounds_toArray, List.set_cons_zero, List.set_cons_succ]
          refine wpAnyH_ready (rs := [7]) (by kernel_rfl) (by simp) ?_
          refine AllReadyH.cons rfl (fun K' hK => ?_) AllReadyH.nil
          have HRow4 : Hid ((w3.alloc (.cells #[.slice y.ka y.e.key.length y.kc, .slice y.va y.e.val.length y.vc, .int .u32 (y.e.page : Int), .int .u32 (y.e.size : Int)] 68)).ownsRow (w.heap.size + 2) 68 4 (.slice a3 k c3) k (rowc ys)) := by have h1 := HCl4.out.row; rw [hyk.out] at h1; exact h1
          refine step_append_own _ (by rfl) (.tmp 22) (.tmp 27) 23 (by rfl) (w.heap.size + 2) 68 i0 _ 4 56 Try.underlying23 hi hz0 hz1 hz2 (by rfl) (by omega) (.slice a3 k c3) k (rowc ys) (by rfl) HRow4.out ⟨w3.heap.size, 0, none⟩ 1 1 y.cells (by rfl) (by rfl) HBx.out (cells_one y) (by unfold maxLen; omega) (by omega) (by rw [HS4.out]; omega) ?_
          intro v' w4 hown4 hg4 hn4
          have hC4 := HCl4.out.snoc2 (y := y) (C := wr.heap.size) HUp.out hsz HYo4.out hg4 (by rw [hyk.out]; exact hown4)
          obtain ⟨a4, c4, rfl, -⟩ := hC4.ens
          have hl4 : (ys ++ [y]).length = k + 1 := by simp [hyk.out]
          rw [hl4] at hC4 ⊢
          have hx4 := (hg4.block _ (lt_of_block HX4.out) (fun e => (HCl4.out.noNode HX4.out).1 e.symm)).trans HX4.out
          obtain ⟨t0, t1, tt0⟩ := cells_two hx4
          have tt1 := frozen_blk (j := 1) hx4
          have HX5 := hide hx4
          have HC5 := hide hC4
          have HG4 := hide hg4
          have HL4 := hide hl4
          refine hK.out _ _ (by exact t0) (fun _hS => ?_)
          clear hK K' hown4 hg4 hn4 hC4 hx4 hl4
          try simp only [Act.put, List.setIfInBounds_toArray]
          refine wpAnyH_take (i := 8) (v := ?v8x12) rfl (by kernel_rfl) (by kernel_rfl) (by kernel_rfl) (fun _ _ _ h => h) (Or.inl ⟨by rfl, ?hy8x12⟩) (by assumption) ?rest8x12
          case hy8x12 => (intro w hSw; (try dsimp only at hSw); (first | (go_simp; with_reducible rfl) | go_simp))
          try simp only [Act.put]
          refine wpAnyH_ready (rs := [9]) (by kernel_rfl) (by simp) ?_
          refine AllReadyH.cons rfl (fun K' hK => ?_) AllReadyH.nil
          go_simp
          have HX6 := hide (one_set2 (v := (.slice a4 (k + 1) c4)) HX5.out)
          refine hK.out _ _ (by exact (cells_two HX6.out).1) (fun _hS => ?_)
          clear hK K' _hS t0 t1 tt0 tt1
          try simp only [Act.put, List.setIfInBounds_toArray, List.set_cons_zero, List.set_cons_succ]
          refine wpAnyH_done (by kernel_rfl) ?_ _
          go_wp2
          go_roundw
          case rel =>
            have hs4 : w3.heap.size + 1 ≤ w4.heap.size := by have := HG4.out.size; rw [HS4.out] at this; exact this
            have hst : ∀ j, j < w3.heap.size → (Value.slice a3 k c3).ownBlock ≠ some j → j ≠ w.heap.size + 1 → (w4.setCell ⟨w.heap.size + 1, 1, none⟩ (.slice a4 (k + 1) c4)).heap[j]? = w3.heap[j]? := fun j hj h1 h2 => (Below.heap_setCell _ _ _ _ h2).trans ((HG4.out.block j (by rw [HS4.out]; omega) (fun e => h1 e.symm)).trans (HB4.out.block j hj))
            have hob : ∀ j, j < w.heap.size + 2 → (Value.slice a3 k c3).ownBlock ≠ some j := fun j hj e => by have := (HCl.out.block e).1; omega
            refine ⟨k + 1, ys ++ [y], rest', a4, c4, by omega, by go_num, HL4.out, by rw [ers_app]; exact HRp3.out, ?_, HX6.out, ?_, ?_, ?_, by simp [World.setCell]; omega⟩
            · exact (hst _ (by omega) (hob _ (by omega)) (by omega)).trans ((HG3.out.block _ (lt_of_block HX0.out) (by simp; omega)).trans HX0.out)
            · exact HC5.out.offNode HX5.out (fun j hj => Below.heap_setCell _ _ _ _ hj)
            · obtain ⟨ra, rn, rcc, hrd⟩ := HRd3.out
              have hpl := hrd.lt
              refine ⟨ra, rn, rcc, (hst p (by omega) (hob p (by omega)) (by omega)).trans hrd.blk, hrd.len, hrd.cap, hrd.max, hrd.bare, ?_, hrd.byts⟩
              rcases hrd.row with h0 | ⟨b, off, e, hlt2, hne, hcc⟩
              · exact .inl h0
              · exact .inr ⟨b, off, e, by simp [World.setCell]; omega, hne, fun j hj => by
                  have := hst b (by omega) (hob b (by omega)) (by omega)
                  rw [← hcc j hj]
                  simp only [World.cell?]
                  rw [this]⟩
            · have h1 := HKb.out.trans (Kb.of_grown (w := wr) (w' := w3) (p := p) ⟨HG3.out.os, HG3.out.tape, HG3.out.output, HG3.out.size, HG3.out.block⟩ (by omega))
              refine h1.trans ⟨HG4.out.os, HG4.out.tape, HG4.out.output, by simp [World.setCell]; omega, fun j hj _ => hst j (by omega) (hob j (by omega)) (by omega)⟩
          case measure => simp [intOf]; omega
        · go_simp
          refine HC.out.mono ?_
          rintro e w3 ⟨hg3, ho⟩
          rcases ho with ⟨y, rest', rfl, hre, hok, hyo, hrd3⟩ | ⟨rfl, hno⟩
          rotate_left
          · have hk3 := HKb.out.trans (Kb.of_grown (w := wr) (w' := w3) (p := p) ⟨hg3.os, hg3.tape, hg3.output, hg3.size, hg3.block⟩ (by omega))
            refine ⟨rfl, hk3.grown, .inr ⟨rfl, HRp.out.stuck (by rw [ers_len, hyk.out]; exact hlt) hno⟩⟩
          simp only [En.v]
          have HRp3 := hide (HRp.out.more hok hre (by rw [ers_len, hyk.out]; exact hlt))
          have HYo := hide hyo
          have HRd3 := hide hrd3
          have HG3 := hide hg3
          refine hK.out _ _ (by exact (cells_two (HSt.out w3 HG3.out)).1) (fun _hS => ?_)
          clear hK K' hre hok hyo hrd3 hg3
          try simp only [Act.put, List.setIfInBounds_toArray, List.set_cons_zero, List.set_cons_succ]
          have hb4 := below_alloc w3 (.cells #[.slice y.ka y.e.key.length y.kc, .slice y.va y.e.val.length y.vc, .int .u32 (y.e.page : Int), .int .u32 (y.e.size : Int)] 68)
          have HBx := hide (box_news w3 y)
          have HX4 := hide ((hb4.block _ (lt_of_block (HSt.out w3 HG3.out))).trans (HSt.out w3 HG3.out))
          have HCl4 := hide ((HClC.out w3 HG3.out).below hb4)
          have HYo4 := hide (HYo.out.below hb4)
          have HRd4 := hide (HRd3.out.below hb4)
          have HB4 := hide hb4
          have hs3 : wr.heap.size ≤ w3.heap.size := HG3.out.size
          have HS4 : Hid ((w3.alloc (.cells #[.slice y.ka y.e.key.length y.kc, .slice y.va y.e.val.length y.vc, .int .u32 (y.e.page : Int), .int .u32 (y.e.size : Int)] 68)).heap.size = w3.heap.size + 1) := by rw [Hid]; simp
          clear hb4
          refine wpAnyH_ready (rs := [1, 6]) (by kernel_rfl) (by simp) ?_
          refine AllReadyH.cons rfl (fun K' hK => ?_) (AllReadyH.cons rfl (fun K' hK => ?_) AllReadyH.nil)
          · have q1 := (cells_two (HSt.out _ (HG3.out))).2.1
            go_simp
            refine hK.out _ _ (by exact (cells_two (HSt.out _ (HG3.out))).1) (fun _hS => ?_)
            clear hK K' q1
            try simp only [Act.put, List.setIfInBounds_toArray, List.set_cons_zero, List.set_cons_succ]
            refine wpAnyH_ready (rs := [6]) (by kernel_rfl) (by simp) ?_
            refine AllReadyH.cons rfl (fun K' hK => ?_) AllReadyH.nil
            go_simp
            refine hK.out _ _ (by exact (cells_two HX4.out).1) (fun _hS => ?_)
            clear hK K'
            try simp only [Act.put, List.setIfInBounds_toArray, List.set_cons_zero, List.set_cons_succ]
            refine wpAnyH_ready (rs := [7]) (by kernel_rfl) (by simp) ?_
            refine AllReadyH.cons rfl (fun K' hK => ?_) AllReadyH.nil
            have HRow4 : Hid ((w3.alloc (.cells #[.slice y.ka y.e.key.length y.kc, .slice y.va y.e.val.length y.vc, .int .u32 (y.e.page : Int), .int .u32 (y.e.size : Int)] 68)).ownsRow (w.heap.size + 2) 68 4 (.slice a3 k c3) k (rowc ys)) := by have h1 := HCl4.out.row; rw [hyk.out] at h1; exact h1
            refine step_append_own _ (by rfl) (.tmp 22) (.tmp 27) 23 (by rfl) (w.heap.size + 2) 68 i0 _ 4 56 Try.underlying23 hi hz0 hz1 hz2 (by rfl) (by omega) (.slice a3 k c3) k (rowc ys) (by rfl) HRow4.out ⟨w3.heap.size, 0, none⟩ 1 1 y.cells (by rfl) (by rfl) HBx.out (cells_one y) (by unfold maxLen; omega) (by omega) (by rw [HS4.out]; omega) ?_
            intro v' w4 hown4 hg4 hn4
            have hC4 := HCl4.out.snoc2 (y := y) (C := wr.heap.size) HUp.out hsz HYo4.out hg4 (by rw [hyk.out]; exact hown4)
            obtain ⟨a4, c4, rfl, -⟩ := hC4.ens
            have hl4 : (ys ++ [y]).length = k + 1 := by simp [hyk.out]
            rw [hl4] at hC4 ⊢
            have hx4 := (hg4.block _ (lt_of_block HX4.out) (fun e => (HCl4.out.noNode HX4.out).1 e.symm)).trans HX4.out
            obtain ⟨t0, t1, tt0⟩ := cells_two hx4
            have tt1 := frozen_blk (j := 1) hx4
            have HX5 := hide hx4
            have HC5 := hide hC4
            have HG4 := hide hg4
            have HL4 := hide hl4
            refine hK.out _ _ (by exact t0) (fun _hS => ?_)
            clear hK K' hown4 hg4 hn4 hC4 hx4 hl4
            try simp only [Act.put, List.setIfInBounds_toArray]
            refine wpAnyH_take (i := 8) (v := ?v8x13) rfl (by kernel_rfl) (by kernel_rfl) (by kernel_rfl) (fun _ _ _ h => h) (Or.inl ⟨by rfl, ?hy8x13⟩) (by assumption) ?rest8x13
            case hy8x13 => (intro w hSw; (try dsimp only at hSw); (first | (go_simp; with_reducible rfl) | go_simp))
            try simp only [Act.put]
            refine wpAnyH_ready (rs := [9]) (by kernel_rfl) (by simp) ?_
            refine AllReadyH.cons rfl (fun K' hK => ?_) AllReadyH.nil
            go_simp
            have HX6 := hide (one_set2 (v := (.slice a4 (k + 1) c4)) HX5.out)
            refine hK.out _ _ (by exact (cells_two HX6.out).1) (fun _hS => ?_)
            clear hK K' _hS t0 t1 tt0 tt1
            try simp only [Act.put, List.setIfInBounds_toArray, List.set_cons_zero, List.set_cons_succ]
            refine wpAnyH_done (by kernel_rfl) ?_ _
            go_wp2
            go_roundw
            case rel =>
              have hs4 : w3.heap.size + 1 ≤ w4.heap.size := by have := HG4.out.size; rw [HS4.out] at this; exact this
              have hst : ∀ j, j < w3.heap.size → (Value.slice a3 k c3).ownBlock ≠ some j → j ≠ w.heap.size + 1 → (w4.setCell ⟨w.heap.size + 1, 1, none⟩ (.slice a4 (k + 1) c4)).heap[j]? = w3.heap[j]? := fun j hj h1 h2 => (Below.heap_setCell _ _ _ _ h2).trans ((HG4.out.block j (by rw [HS4.out]; omega) (fun e => h1 e.symm)).trans (HB4.out.block j hj))
              have hob : ∀ j, j < w.heap.size + 2 → (Value.slice a3 k c3).ownBlock ≠ some j := fun j hj e => by have := (HCl.out.block e).1; omega
              refine ⟨k + 1, ys ++ [y], rest', a4, c4, by omega, by go_num, HL4.out, by rw [ers_app]; exact HRp3.out, ?_, HX6.out, ?_, ?_, ?_, by simp [World.setCell]; omega⟩
              · exact (hst _ (by omega) (hob _ (by omega)) (by omega)).trans ((HG3.out.block _ (lt_of_block HX0.out) (by simp; omega)).trans HX0.out)
              · exact HC5.out.offNode HX5.out (fun j hj => Below.heap_setCell _ _ _ _ hj)
              · obtain ⟨ra, rn, rcc, hrd⟩ := HRd3.out
                have hpl := hrd.lt
                refine ⟨ra, rn, rcc, (hst p (by omega) (hob p (by omega)) (by omega)).trans hrd.blk, hrd.len, hrd.cap, hrd.max, hrd.bare, ?_, hrd.byts⟩
                rcases hrd.row with h0 | ⟨b, off, e, hlt2, hne, hcc⟩
                · exact .inl h0
                · exact .inr ⟨b, off, e, by simp [World.setCell]; omega, hne, fun j hj => by
                    have := hst b (by omega) (hob b (by omega)) (by omega)
                    rw [← hcc j hj]
                    simp only [World.cell?]
                    rw [this]⟩
              · have h1 := HKb.out.trans (Kb.of_grown (w := wr) (w' := w3) (p := p) ⟨HG3.out.os, HG3.out.tape, HG3.out.output, HG3.out.size, HG3.out.block⟩ (by omega))
                refine h1.trans ⟨HG4.out.os, HG4.out.tape, HG4.out.output, by simp [World.setCell]; omega, fun j hj _ => hst j (by omega) (hob j (by omega)) (by omega)⟩
            case measure => simp [intOf]; omega
          · go_simp
            refine hK.out _ _ (by exact (cells_two HX4.out).1) (fun _hS => ?_)
            clear hK K'
            try simp only [Act.put, List.setIfInBounds_toArray, List.set_cons_zero, List.set_cons_succ]
            refine wpAnyH_ready (rs := [1]) (by kernel_rfl) (by simp) ?_
            refine AllReadyH.cons rfl (fun K' hK => ?_) AllReadyH.nil
            have q1 := (cells_two HX4.out).2.1
            go_simp
            refine hK.out _ _ (by exact (cells_two HX4.out).1) (fun _hS => ?_)
            clear hK K' q1
            try simp only [Act.put, List.setIfInBounds_toArray, List.set_cons_zero, List.set_cons_succ]
            refine wpAnyH_ready (rs := [7]) (by kernel_rfl) (by simp) ?_
            refine AllReadyH.cons rfl (fun K' hK => ?_) AllReadyH.nil
            have HRow4 : Hid ((w3.alloc (.cells #[.slice y.ka y.e.key.length y.kc, .slice y.va y.e.val.length y.vc, .int .u32 (y.e.page : Int), .int .u32 (y.e.size : Int)] 68)).ownsRow (w.heap.size + 2) 68 4 (.slice a3 k c3) k (rowc ys)) := by have h1 := HCl4.out.row; rw [hyk.out] at h1; exact h1
            refine step_append_own _ (by rfl) (.tmp 22) (.tmp 27) 23 (by rfl) (w.heap.size + 2) 68 i0 _ 4 56 Try.underlying23 hi hz0 hz1 hz2 (by rfl) (by omega) (.slice a3 k c3) k (rowc ys) (by rfl) HRow4.out ⟨w3.heap.size, 0, none⟩ 1 1 y.cells (by rfl) (by rfl) HBx.out (cells_one y) (by unfold maxLen; omega) (by omega) (by rw [HS4.out]; omega) ?_
            intro v' w4 hown4 hg4 hn4
            have hC4 := HCl4.out.snoc2 (y := y) (C := wr.heap.size) HUp.out hsz HYo4.out hg4 (by rw [hyk.out]; exact hown4)
            obtain ⟨a4, c4, rfl, -⟩ := hC4.ens
            have hl4 : (ys ++ [y]).length = k + 1 := by simp [hyk.out]
            rw [hl4] at hC4 ⊢
            have hx4 := (hg4.block _ (lt_of_block HX4.out) (fun e => (HCl4.out.noNode HX4.out).1 e.symm)).trans HX4.out
            obtain ⟨t0, t1, tt0⟩ := cells_two hx4
            have tt1 := frozen_blk (j := 1) hx4
            have HX5 := hide hx4
            have HC5 := hide hC4
            have HG4 := hide hg4
            have HL4 := hide hl4
            refine hK.out _ _ (by exact t0) (fun _hS => ?_)
            clear hK K' hown4 hg4 hn4 hC4 hx4 hl4
            try simp only [Act.put, List.setIfInBounds_toArray]
            refine wpAnyH_take (i := 8) (v := ?v8x14) rfl (by kernel_rfl) (by kernel_rfl) (by kernel_rfl) (fun _ _ _ h => h) (Or.inl ⟨by rfl, ?hy8x14⟩) (by assumption) ?rest8x14
            case hy8x14 => (intro w hSw; (try dsimp only at hSw); (first | (go_simp; with_reducible rfl) | go_simp))
            try simp only [Act.put]
            refine wpAnyH_ready (rs := [9]) (by kernel_rfl) (by simp) ?_
            refine AllReadyH.cons rfl (fun K' hK => ?_) AllReadyH.nil
            go_simp
            have HX6 := hide (one_set2 (v := (.slice a4 (k + 1) c4)) HX5.out)
            refine hK.out _ _ (by exact (cells_two HX6.out).1) (fun _hS => ?_)
            clear hK K' _hS t0 t1 tt0 tt1
            try simp only [Act.put, List.setIfInBounds_toArray, List.set_cons_zero, List.set_cons_succ]
            refine wpAnyH_done (by kernel_rfl) ?_ _
            go_wp2
            go_roundw
            case rel =>
              have hs4 : w3.heap.size + 1 ≤ w4.heap.size := by have := HG4.out.size; rw [HS4.out] at this; exact this
              have hst : ∀ j, j < w3.heap.size → (Value.slice a3 k c3).ownBlock ≠ some j → j ≠ w.heap.size + 1 → (w4.setCell ⟨w.heap.size + 1, 1, none⟩ (.slice a4 (k + 1) c4)).heap[j]? = w3.heap[j]? := fun j hj h1 h2 => (Below.heap_setCell _ _ _ _ h2).trans ((HG4.out.block j (by rw [HS4.out]; omega) (fun e => h1 e.symm)).trans (HB4.out.block j hj))
              have hob : ∀ j, j < w.heap.size + 2 → (Value.slice a3 k c3).ownBlock ≠ some j := fun j hj e => by have := (HCl.out.block e).1; omega
              refine ⟨k + 1, ys ++ [y], rest', a4, c4, by omega, by go_num, HL4.out, by rw [ers_app]; exact HRp3.out, ?_, HX6.out, ?_, ?_, ?_, by simp [World.setCell]; omega⟩
              · exact (hst _ (by omega) (hob _ (by omega)) (by omega)).trans ((HG3.out.block _ (lt_of_block HX0.out) (by simp; omega)).trans HX0.out)
              · exact HC5.out.offNode HX5.out (fun j hj => Below.heap_setCell _ _ _ _ hj)
              · obtain ⟨ra, rn, rcc, hrd⟩ := HRd3.out
                have hpl := hrd.lt
                refine ⟨ra, rn, rcc, (hst p (by omega) (hob p (by omega)) (by omega)).trans hrd.blk, hrd.len, hrd.cap, hrd.max, hrd.bare, ?_, hrd.byts⟩
                rcases hrd.row with h0 | ⟨b, off, e, hlt2, hne, hcc⟩
                · exact .inl h0
                · exact .inr ⟨b, off, e, by simp [World.setCell]; omega, hne, fun j hj => by
                    have := hst b (by omega) (hob b (by omega)) (by omega)
                    rw [← hcc j hj]
                    simp only [World.cell?]
                    rw [this]⟩
              · have h1 := HKb.out.trans (Kb.of_grown (w := wr) (w' := w3) (p := p) ⟨HG3.out.os, HG3.out.tape, HG3.out.output, HG3.out.size, HG3.out.block⟩ (by omega))
                refine h1.trans ⟨HG4.out.os, HG4.out.tape, HG4.out.output, by simp [World.setCell]; omega, fun j hj _ => hst j (by omega) (hob j (by omega)) (by omega)⟩
            case measure => simp [intOf]; omega
      · obtain rfl : k = N := by omega
        obtain ⟨ra, rn, rcc, hrd⟩ := HRd.out
        have rc0 := hrd.c0
        have hrl := hrd.len
        have HRl := hide hrl
        obtain ⟨f0, f1, ff0⟩ := cells_two HX1.out
        by_cases hr0 : rn = 0
        rotate_left
        · have d2 : ((rn : Int) == 0) = false := by simp; omega
          have d3 : ¬ (rn : Int) = 0 := by omega
          have d4 : decide ((rn : Int) = 0) = false := decide_eq_false d3
          have d5 : decide (rn = 0) = false := decide_eq_false hr0
          have HRn := hide hr0
          clear hrd hrl hr0
          go_wp2_with fail
          refine (must_no _ _ rfl _).mono ?_
          rintro e w5 ⟨rfl, rfl⟩
          refine ⟨rfl, ?_, .inr ⟨rfl, HRp.out.long (by rw [ers_len]; exact hyk.out) (fun e => HRn.out (by have := HRl.out; rw [e] at this; simpa using this.symm))⟩⟩
          exact HKb.out.grown
        · subst hr0
          have hre : rest = [] := List.eq_nil_of_length_eq_zero hrl
          subst hre
          obtain ⟨ae, ce, hev, hens⟩ := HCl.out.ens
          rw [hyk.out] at hev hens
          cases hev
          have hwt : wts (ers ys) ≤ 100000 := by
            have h1 := wts_encs HRp.out.rok
            have h2 := congrArg List.length HRp.out.eq
            have h3 := HLz.out
            simp at h2
            omega
          have HCk := hide (fun V (hV : Below wr.heap.size wr V) => check_any false a3 k c3 ys V (hens.below hV) (by omega) (by omega))
          have HLk : Hid ((ers ys).length = k) := by rw [ers_len]; exact hyk.out
          have HRd2 := hide hrd
          clear hrd hens hwt hrl
          go_wp2_with fail
          refine (must_yes _ _ rfl _).mono ?_
          rintro e w5 ⟨rfl, rfl⟩
          go_wp2_with fail
          refine (HCk.out _ (Below.refl _ _)).mono ?_
          rintro e w6 ⟨rfl, hb6⟩
          have hy0 := (hb6.block _ (lt_of_block HX0.out)).trans HX0.out
          have hy1 := (hb6.block _ (lt_of_block HX1.out)).trans HX1.out
          clear f0 f1 ff0
          obtain ⟨g0, g1, -⟩ := cells_two hy1
          obtain ⟨z0, z1, zz0⟩ := cells_two hy0
          have zz1 := frozen_blk (j := 1) hy0
          have HY0 := hide hy0
          have HB6 := hide hb6
          clear hb6 hy0 hy1
          have k1 := HKb.out.trans (Kb.of_below HB6.out (by omega))
          have HK1 := hide k1
          clear k1
          by_cases hc : chk false (ers ys) = 0
          · rw [hc]
            go_wp2_with (go_at_call 56; refine (must_yes _ _ rfl _).mono ?_; rintro e w7 ⟨rfl, rfl⟩)
            have hf := two_set (u := .bool false) (v := .slice a3 k c3) HY0.out
            obtain ⟨q0, q1, -⟩ := cells_two hf
            refine bodyPost_ret (v := .agg #[.bool false, .slice a3 k c3]) ?_ rfl ?_
            · simp [results, Try.results17, go_sem, q0, q1]
            · refine ⟨?_, .inl ⟨_, ys, rfl, HRp.out.good HLk.out hc, ((HCl.out.below HB6.out).other (fun j hj => two_other (by omega))).mono (by omega)⟩⟩
              exact ⟨HK1.out.os, HK1.out.tape, HK1.out.output, by have := HK1.out.size; simpa [World.setCell] using this, fun j hj h1 => (two_other (by omega)).trans (HK1.out.block j hj (by simpa using h1))⟩
          · obtain ⟨K1, hK1⟩ : ∃ K1, K1 = chk false (ers ys) := ⟨_, rfl⟩
            have HBd := hide (HRp.out.bad HLk.out hc)
            rw [← hK1] at hc ⊢
            have d2 : ((K1 : Int) == 0) = false := by simp; omega
            have d3 : ¬ (K1 : Int) = 0 := by omega
            have d4 : decide ((K1 : Int) = 0) = false := decide_eq_false d3
            have d5 : decide (K1 = 0) = false := decide_eq_false hc
            clear hK1 hc
            go_wp2_with fail
            refine (must_no _ _ rfl _).mono ?_
            rintro e w7 ⟨rfl, rfl⟩
            exact ⟨rfl, HK1.out.grown, .inr ⟨rfl, HBd.out⟩⟩
end Go.Proofs.Ytjojpohnmfkanaa
