/- A pile: a page is put in, the first one is taken. -/
import Derived.Test.YtlahkeapfcfbbaaDoorPF
namespace Go.Proofs.YtlahkeapfcfbbaaDoor
open Go.RowKit Go.Maps
set_option linter.unusedVariables false
variable {w w' : World} {p : Nat} {b : Bool} {v : Value} {xs : List Pg}
/-- the blocks of a pile. -/
def OwPl (p : Nat) (v : Value) (k : Nat) : Prop := k = p ∨ v.ownBlock = some k
set_option maxHeartbeats 1600000 in
set_option maxRecDepth 1000000 in
theorem hpush_any (h : Pl w p b v xs) (hh : Heap (key b) xs) (x : Pg) (hf : xs.length + 1 ≤ 1000000) :
    Calls Tryd.prog 70 #[hi p, .iface 87 (pgv x)] w fun e w' => e = .returned (.tuple #[]) ∧ ∃ v' ys, Pl w' p b v' ys ∧ ys.Perm (x :: xs) ∧ Heap (key b) ys ∧ Go1 (OwPl p v) w (OwPl p v') w' := by
  have HPu := hide (push_any h x hf)
  have HH := hide hh
  clear hh
  have hmL := mLen
  have hmP := mPush
  have hw : wrap64 (xs.length : Int) = xs.length := by unfold wrap64; omega
  have HLen : ∀ W v', Pl W p b v' (xs ++ [x]) → Hid (Calls Tryd.prog 29 #[.pointer (some ⟨p, 0, none⟩)] W fun e w' => e = .returned (.int .i64 ((xs.length : Int) + 1)) ∧ Same W w') := by
    intro W v' hW
    refine (plen_any hW).mono ?_
    rintro e w' ⟨rfl, rfl⟩
    exact ⟨by simp, Same.refl _⟩
  have HLen' := hide HLen
  have HUp : ∀ W v', Pl W p b v' (xs ++ [x]) → Hid (Calls Tryd.prog 72 #[hi p, .int .i64 (xs.length : Int)] W fun e w' => e = .returned (.tuple #[]) ∧ ∃ ys, Pl w' p b v' ys ∧ ys.Perm (xs ++ [x]) ∧ Heap (key b) ys ∧ Mv (fun k => v'.ownBlock = some k) W w') := by
    intro W v' hW
    exact up_any hW xs.length (HH.out.push x) (by simp; omega)
  have HUp' := hide HUp
  clear HLen HUp h
  unfold hi at *
  go_enter Tryd.func70, Tryd.ntmps70
  go_wp2_with (first
    | (go_at_call 92; refine HPu.out.mono ?_; rintro e w1 ⟨rfl, v1, hp1, ho1, hm1⟩; have HP1 := hide hp1; have HO1 := hide ho1; have HM1 := hide hm1; clear hp1 ho1 hm1)
    | (go_at_call 29; refine (HLen'.out _ _ HP1.out).out.mono ?_; rintro e w2 ⟨rfl, hs2⟩; have HS2 := hide hs2; clear hs2)
    | (go_at_call 72; refine (HUp'.out _ _ (HP1.out.same HS2.out)).out.mono ?_; rintro e w3 ⟨rfl, ys, hp3, hpe3, hh3, hm3⟩; have HP3 := hide hp3; have HE3 := hide hpe3; have HH3 := hide hh3; have HM3 := hide hm3; clear hp3 hpe3 hh3 hm3))
  go_end0
  refine ⟨rfl, v1, ys, HP3.out, HE3.out.trans (List.perm_append_comm), HH3.out, ?_⟩
  refine Go1.trans (O1 := OwPl p v1) (w1 := w1) ⟨HM1.out, fun k hk => ?_⟩ ⟨HS2.out.mv.trans' (HM3.out.mono (fun k hk => .inr hk)), fun k hk => .inl hk⟩
  rcases hk with rfl | hk
  · exact .inl (.inl rfl)
  · exact (HO1.out k hk).imp .inr id
set_option maxHeartbeats 1600000 in
set_option maxRecDepth 1000000 in
theorem put_any (h : Pl w p b v xs) (hh : Heap (key b) xs) (x : Pg) (hf : xs.length + 1 ≤ 1000000) :
    Calls Tryd.prog 63 #[.pointer (some ⟨p, 0, none⟩), pgv x] w fun e w' => e = .returned (.tuple #[]) ∧ ∃ v' ys, Pl w' p b v' ys ∧ ys.Perm (x :: xs) ∧ Heap (key b) ys ∧ Go1 (OwPl p v) w (OwPl p v') w' := by
  have HC := hide (fun W (hW : Below w.heap.size w W) => hpush_any (h.stays (Mv.of_below (O := fun _ => False) hW) id (fun _ _ => id)) hh x hf)
  clear h hh
  unfold hi at *
  unfold pgv at *
  go_enter Tryd.func63, Tryd.ntmps63
  go_wp2_with (go_at_call 70; refine (HC.out _ (below_alloc w _)).mono ?_; rintro e w1 ⟨rfl, v1, ys, h1, h2, h3, h4⟩; have H1 := hide h1; have H2 := hide h2; have H3 := hide h3; have H4 := hide h4; clear h1 h2 h3 h4)
  go_end0
  exact ⟨rfl, v1, ys, H1.out, H2.out, H3.out, (Go1.of_below (below_alloc w _)).trans H4.out⟩
set_option maxHeartbeats 1600000 in
set_option maxRecDepth 1000000 in
theorem hpop_any (h : Pl w p b v xs) (hh : Heap (key b) xs) (h0 : 0 < xs.length) (hf : xs.length ≤ 1000000) :
    Calls Tryd.prog 66 #[hi p] w fun e w' => e = .returned (.iface 87 (pgv (pat xs 0))) ∧ ∃ v' ys, Pl w' p b v' ys ∧ xs.Perm (pat xs 0 :: ys) ∧ Heap (key b) ys ∧ Go1 (OwPl p v) w (OwPl p v') w' := by
  obtain ⟨n, hn⟩ : ∃ n, n + 1 = xs.length := ⟨xs.length - 1, by omega⟩
  have HH := hide hh
  have hmL := mLen
  have hmP := mPop
  have hmS := mSwap
  have hw : wrap64 (n : Int) = n := by unfold wrap64; omega
  have HLen : Hid (Calls Tryd.prog 29 #[.pointer (some ⟨p, 0, none⟩)] w fun e w' => e = .returned (.int .i64 ((n : Int) + 1)) ∧ Same w w') := by
    refine (plen_any h).mono ?_
    rintro e w' ⟨rfl, rfl⟩
    exact ⟨by rw [← hn]; simp, Same.refl _⟩
  have HSw : Hid (∀ W, Same w W → Calls Tryd.prog 93 #[.pointer (some ⟨p, 0, none⟩), .int .i64 0, .int .i64 (n : Int)] W fun e w' => e = .returned (.tuple #[]) ∧ Pl w' p b v (sw xs 0 n) ∧ w'.heap.size = W.heap.size ∧ Mv (fun k => v.ownBlock = some k) W w') :=
    fun W hW => swap_any (h.same hW) 0 n h0 (by omega)
  have HDn : Hid (∀ W, Pl W p b v (sw xs 0 n) → Calls Tryd.prog 71 #[hi p, .int .i64 0, .int .i64 (n : Int)] W fun e w' => ∃ ys r, e = .returned (.bool r) ∧ Pl w' p b v ys ∧ ys.Perm (sw xs 0 n) ∧ pat ys n = pat (sw xs 0 n) n ∧ Heap (key b) (ys.take n) ∧ Mv (fun k => v.ownBlock = some k) W w') :=
    fun W hW => down_any hW n (HH.out.down n hn) (by rw [length_sw]; exact hn) (by rw [length_sw]; exact hf)
  have HPo : Hid (∀ W ys, Pl W p b v ys → ys.Perm (sw xs 0 n) → pat ys n = pat (sw xs 0 n) n → Calls Tryd.prog 91 #[.pointer (some ⟨p, 0, none⟩)] W fun e w' => e = .returned (.iface 87 (pgv (pat xs 0))) ∧ ∃ v', Pl w' p b v' (ys.take n) ∧ v'.ownBlock = v.ownBlock ∧ Mv (fun k => k = p) W w') := by
    intro W ys hW hpe hpa
    have hyl : n + 1 = ys.length := by rw [hpe.length_eq, length_sw]; exact hn
    have e := take_last hyl
    rw [hpa, sw_last hn] at e
    rw [e] at hW
    exact pop_any hW (by simp; omega)
  have HPe : Hid (∀ ys : List Pg, ys.Perm (sw xs 0 n) → pat ys n = pat (sw xs 0 n) n → xs.Perm (pat xs 0 :: ys.take n)) := by
    intro ys hpe hpa
    have hyl : n + 1 = ys.length := by rw [hpe.length_eq, length_sw]; exact hn
    have e := take_last hyl
    rw [hpa, sw_last hn] at e
    have h1 : xs.Perm ys := (sw_perm (by omega) (by omega)).symm.trans hpe.symm
    exact h1.trans ((List.Perm.of_eq e).trans List.perm_append_comm)
  clear h hh
  generalize pgv (pat xs 0) = P at *
  unfold hi at *
  go_enter Tryd.func66, Tryd.ntmps66
  go_wp2_with (first
    | (go_at_call 29; refine HLen.out.mono ?_; rintro e w1 ⟨rfl, hs1⟩; have HS1 := hide hs1; clear hs1)
    | (go_at_call 93; refine (HSw.out _ HS1.out).mono ?_; rintro e w2 ⟨rfl, hp2, -, hm2⟩; have HP2 := hide hp2; have HM2 := hide hm2; clear hp2 hm2)
    | (go_at_call 71; refine (HDn.out _ HP2.out).mono ?_; rintro e w3 ⟨ys, r, rfl, hp3, he3, hq3, hh3, hm3⟩; have HP3 := hide hp3; have HE3 := hide he3; have HQ3 := hide hq3; have HH3 := hide hh3; have HM3 := hide hm3; clear hp3 he3 hq3 hh3 hm3)
    | (go_at_call 91; refine (HPo.out _ _ HP3.out HE3.out HQ3.out).mono ?_; rintro e w4 ⟨rfl, v4, hp4, ho4, hm4⟩; have HP4 := hide hp4; have HO4 := hide ho4; have HM4 := hide hm4; clear hp4 ho4 hm4))
  go_ret
  refine ⟨rfl, v4, _, HP4.out, HPe.out _ HE3.out HQ3.out, HH3.out, ?_⟩
  refine ⟨(((HS1.out.mv.trans' (HM2.out.mono ?_)).trans' (HM3.out.mono ?_)).trans' (HM4.out.mono ?_)), fun k hk => ?_⟩
  · exact fun k hk => .inr hk
  · exact fun k hk => .inr hk
  · exact fun k hk => .inl hk
  · rcases hk with hk | hk
    · exact .inl (.inl hk)
    · rw [HO4.out] at hk; exact .inl (.inr hk)
set_option maxHeartbeats 1600000 in
set_option maxRecDepth 1000000 in
theorem takeFirst_any (h : Pl w p b v xs) (hh : Heap (key b) xs) (h0 : 0 < xs.length) (hf : xs.length ≤ 1000000) :
    Calls Tryd.prog 30 #[.pointer (some ⟨p, 0, none⟩)] w fun e w' => e = .returned (pgv (pat xs 0)) ∧ ∃ v' ys, Pl w' p b v' ys ∧ xs.Perm (pat xs 0 :: ys) ∧ Heap (key b) ys ∧ Go1 (OwPl p v) w (OwPl p v') w' := by
  have HC := hide (fun W (hW : Below w.heap.size w W) => hpop_any (h.stays (Mv.of_below (O := fun _ => False) hW) id (fun _ _ => id)) hh h0 hf)
  have hta := ta_pg
  clear hh
  have hp := h.lt
  have HVl := hide (fun k (hk : v.ownBlock = some k) => h.vlt hk)
  clear h
  unfold hi at *
  unfold pgv at *
  generalize (pat xs 0).1 = x1 at *
  generalize (pat xs 0).2 = x2 at *
  go_enter Tryd.func30, Tryd.ntmps30
  go_wp2_with (go_at_call 66; refine (HC.out _ (below_alloc w _)).mono ?_; rintro e w1 ⟨rfl, v1, ys, h1, h2, h3, h4⟩; have hb1 := (h4.mv.block w.heap.size (lt_of_block (heap_alloc_new w _)) (fun ho => ho.elim (fun e => by omega) (fun e => by have := HVl.out _ e; omega))).trans (heap_alloc_new w _); have d0 := cell_of_row w1 w.heap.size 0 _ _ _ hb1; have d1 := cell_of_row w1 w.heap.size 1 _ _ _ hb1; have z0 := frozen_of_row w1 w.heap.size 0 _ _ hb1; have z1 := frozen_of_row w1 w.heap.size 1 _ _ hb1; simp only [List.getElem?_toArray, List.getElem?_cons_zero, List.getElem?_cons_succ] at d0 d1; have HB1 := hide hb1; have H1 := hide h1; have H2 := hide h2; have H3 := hide h3; have H4 := hide h4; clear h1 h2 h3 h4 hb1)
  have hn1 : w.heap.size ≠ p := by omega
  have hb2 : ((w1.setCell ⟨w.heap.size, 0, none⟩ (.int .u32 x1)).setCell ⟨w.heap.size, 1, none⟩ (.int .u64 x2)).heap[w.heap.size]? = some (.cells #[.int .u32 x1, .int .u64 x2] 87 (0, 0)) := by
    rw [heap_setCell_same _ _ 1 _ 87 _ (heap_setCell_same w1 w.heap.size 0 _ 87 _ HB1.out)]; rfl
  refine bodyPost_ret (v := .agg #[.int .u32 x1, .int .u64 x2]) ?_ rfl ⟨rfl, v1, ys, ?_, H2.out, H3.out, ?_⟩
  · exact results_cell_row (p := 2) (ty := 87) rfl _ _ w.heap.size 87 _ (0, 0) _ rfl hb2 Tryd.underlying87 rfl (by kernel_rfl)
  · have hv1 : v1.ownBlock ≠ some w.heap.size := fun e => (H4.out.own _ (.inr e)).elim (fun ho => ho.elim (fun e => by omega) (fun e => by have := HVl.out _ e; omega)) (fun hl => by simp at hl; omega)
    exact H1.out.of_blocks (by rw [set_other _ _ _ _ _ hn1.symm, set_other _ _ _ _ _ hn1.symm]) (fun k hk => by
      have hne : k ≠ w.heap.size := fun e => hv1 (by rw [hk, e])
      rw [set_other _ _ _ _ _ hne, set_other _ _ _ _ _ hne])
  · have hg := (Go1.of_below (O := OwPl p v) (below_alloc w _)).trans H4.out
    refine ⟨⟨hg.mv.os, hg.mv.tape, hg.mv.output, by simpa [World.setCell] using hg.mv.size, fun k hk ho => ?_⟩, hg.own⟩
    have hne : k ≠ w.heap.size := by omega
    rw [set_other _ _ _ _ _ hne, set_other _ _ _ _ _ hne]
    exact hg.mv.block k hk ho
end Go.Proofs.YtlahkeapfcfbbaaDoor
