/- The document's own pool over its disk: Read. -/
import Derived.Test.YtlmofgfkclfgeaaGreatVD
import Derived.Test.YtlmofgfkclfgeaaGreatZK
import Derived.Test.YtlmofgfkclfgeaaGreatZT
import Derived.Test.YtlmofgfkclfgeaaGreatFQ
import Derived.BigQuiet
namespace Go.Proofs.YtlmofgfkclfgeaaGreat
open Go.RowKit Go.Maps
set_option linter.unusedVariables false

/-- the document's pool over its disk: the disk's state, the pages at hand, the blocks of both. -/
def Qp (w : World) (p r : Nat) (S : DS) (most : Nat) (A : List Pge) (O : Nat → Prop) : Prop := ∃ O1 v H, RdAt w r S O1 ∧ Qm w p r most v H ∧ H.map (·.1) = A ∧ (∀ k, O1 k → ¬ OwQ p v H k) ∧ ∀ k, O k ↔ O1 k ∨ OwQ p v H k
variable {w w' w1 w2 w3 : World} {p r most : Nat} {S S' : DS} {A : List Pge} {O O1 O1' : Nat → Prop} {v pv : Value} {H : List Hn} {x : Pge}
theorem Qp.lt (h : Qp w p r S most A O) {k : Nat} (hk : O k) : k < w.heap.size := by
  obtain ⟨O1, v, H, h1, h2, h3, h4, h5⟩ := h
  exact ((h5 k).1 hk).elim (h1.lt k) (h2.lt k)
theorem Qp.stays (h : Qp w p r S most A O) (hs : w.heap.size ≤ w'.heap.size) (hb : ∀ k, O k → w'.heap[k]? = w.heap[k]?) : Qp w' p r S most A O := by
  obtain ⟨O1, v, H, ⟨vl, Ls, vc, Cs, f, a1, a2⟩, h2, h3, h4, h5⟩ := h
  exact ⟨O1, v, H, ⟨vl, Ls, vc, Cs, f, a1.stays (fun k hk _ => hb k ((h5 k).2 (.inl ((a2 k).2 hk)))) hs, a2⟩, h2.stays fun k hk => hb k ((h5 k).2 (.inr hk)), h3, h4, h5⟩
theorem Qp.below (h : Qp w p r S most A O) (hb : Below w.heap.size w w') : Qp w' p r S most A O := h.stays hb.size fun k hk => hb.block k (h.lt hk)
theorem Qp.mo (h : Qp w p r S most A O) : 1 ≤ most ∧ most ≤ 9223372036854775807 ∧ A.length ≤ most ∧ (A.map Pge.n).Nodup ∧ S.Good ∧ ∀ y ∈ A, y.n < 4294967296 ∧ y.k < 256 := by
  obtain ⟨O1, v, H, h1, h2, rfl, h4, h5⟩ := h
  refine ⟨h2.most.1, h2.most.2, by simpa using h2.few, (by rw [List.map_map]; exact h2.nums), h1.good, fun y hy => ?_⟩
  obtain ⟨z, hz, rfl⟩ := List.mem_map.1 hy
  exact h2.rg z hz
/-- the disk moves, the pool stays. -/
theorem qp_disk (hO : ∀ k, O k ↔ O1 k ∨ OwQ p v H k) (hq : Qm w p r most v H) (hs : ∀ k, O1 k → ¬ OwQ p v H k) (hd : RdAt w' r S' O1') (hg : Go1 O1 w O1' w') :
    Qm w' p r most v H ∧ (∀ k, O1' k → ¬ OwQ p v H k) ∧ Go1 O w (fun k => O1' k ∨ OwQ p v H k) w' := by
  refine ⟨hq.stays fun k hk => hg.mv.block k (hq.lt k hk) (fun h => hs k h hk), fun k hk hq2 => ?_, ⟨hg.mv.mono fun k hk => (hO k).2 (.inl hk), fun k hk => ?_⟩⟩
  · rcases hg.own k hk with h | h
    · exact hs k h hq2
    · have := hq.lt k hq2; omega
  · rcases hk with hk | hk
    · exact (hg.own k hk).imp (fun h => (hO k).2 (.inl h)) id
    · exact .inl ((hO k).2 (.inr hk))
/-- a page comes in, or is used. -/
theorem qp_used (hO : ∀ k, O k ↔ O1 k ∨ OwQ p v H k) (hd : RdAt w r S O1) (hq : Qm w p r most v H) (hs : ∀ k, O1 k → ¬ OwQ p v H k) (hu : Used w w' p r most v pv H x) (hpv : ∀ k, pv.ownBlock = some k → ¬ O1 k) :
    ∃ O', Qp w' p r S most (inn most (wo (H.map (·.1)) x.n) x) O' ∧ Mv O w w' ∧ ∀ k, O' k → O k ∨ pv.ownBlock = some k ∨ w.heap.size ≤ k := by
  obtain ⟨⟨v', H', a1, a2, a3, a4⟩, hm⟩ := hu
  have hp2 : ∀ k, (k = p ∨ v.ownBlock = some k) → OwQ p v H k := fun k hk => hk.imp id .inl
  have hn : ∀ k, OwQ p v' H' k → OwQ p v H k ∨ pv.ownBlock = some k ∨ w.heap.size ≤ k := fun k hk => by
    rcases hk with rfl | hk | ⟨y, hy, hk⟩
    · exact .inl (.inl rfl)
    · rcases a4 k hk with h | h
      · exact .inl (.inr (.inl h))
      · exact .inr (.inr h)
    · rcases a3 y hy with h | rfl
      · exact .inl (.inr (.inr ⟨y, h, hk⟩))
      · exact .inr (.inl hk)
  have hd' : RdAt w' r S O1 := hd.other hm fun k hk h => hs k hk (hp2 k h)
  refine ⟨fun k => O1 k ∨ OwQ p v' H' k, ⟨O1, v', H', hd', a1, a2, fun k hk h => ?_, fun k => Iff.rfl⟩, hm.mono fun k hk => (hO k).2 (.inr (hp2 k hk)), fun k hk => ?_⟩
  · rcases hn k h with h | h | h
    · exact hs k hk h
    · exact hpv k h hk
    · have := hd.lt k hk; omega
  · rcases hk with hk | hk
    · exact .inl ((hO k).2 (.inl hk))
    · exact (hn k hk).imp (fun h => (hO k).2 (.inr h)) id
theorem drewN_below (w : World) (k : Nat) : Below w.heap.size w (w.drewN k) := ⟨rfl, rfl, rfl, Nat.le_refl _, fun _ _ => rfl⟩
theorem Mv.drewN {O : Nat → Prop} (h : Mv O w w') (k : Nat) : Mv O w (w'.drewN k) := ⟨h.os, h.tape, h.output, h.size, h.block⟩
theorem convU (n : Nat) (hn : n < 4294967296) : IntKind.i64.wrap (n : Int) = (n : Int) := by rw [IntKind.wrap_i64]; omega
set_option maxHeartbeats 1600000 in
set_option maxRecDepth 1000000 in
theorem qread_off (n : Nat) (hn : n < 4294967296) (h : Qp w p r S most A O) (hr : ¬ n < S.ls.length / 8) :
    Calls Tryz.prog 25 #[.pointer (some ⟨p, 0, none⟩), .int .u32 (n : Int)] w fun e w' => e = .returned (.tuple #[.int .u8 0, .slice none 0 0, .int .u16 2]) ∧ w' = w := by
  obtain ⟨O1, v, H, ⟨vl, Ls, vc, Cs, f, h1, h1'⟩, h2, h3, h4, h5⟩ := h
  have HP := hide (rpages_any h1)
  have k0 := h2.c0
  obtain ⟨N, HN⟩ : ∃ N, Hid (N = S.ls.length / 8) := ⟨_, rfl⟩
  rw [← HN.out] at HP hr
  have d1 : (N : Int) ≤ (n : Int) := by omega
  have wr := convU n hn
  clear h1 h1' h2 h3 h4 h5 hr
  go_enter Tryz.func25, Tryz.ntmps25
  go_wp2_with (go_at_call 57; refine HP.out.mono ?_; rintro e w1 ⟨rfl, rfl⟩)
  go_ret3
  exact ⟨rfl, rfl⟩
theorem zeroHn : ∀ w, (zeroValue 159).run Tryz.prog w = .ok (.agg #[.int .u32 0, .int .u8 0, .slice none 0 0]) w := (zero_of_info (P := Tryz.prog) (t := 159) (v := .agg #[.int .u32 0, .int .u8 0, .slice none 0 0]) (n := 3) (by kernel_rfl)).1
theorem Sl.inn {a : Option Addr} {n c : Nat} {zs : List Int} (h : Sl w (.slice a n c) zs) (h8 : Byts zs) : Inn w a n c zs := own_inn h h8
/-- a page that is at hand. -/
theorem inn_used {y : Pge} (hn : (A.map Pge.n).Nodup) (hf : A.length ≤ most) (hy : y ∈ A) : inn most (wo A y.n) y = wo A y.n ++ [y] := by
  have h1 : (wo A y.n).length < A.length := by
    have h2 : (wo A y.n).length + 1 ≤ A.length := by
      obtain ⟨u, t, rfl⟩ := List.append_of_mem hy
      have h3 : (wo (u ++ y :: t) y.n).length ≤ (u ++ t).length := by
        unfold wo
        rw [List.filter_append, List.filter_cons]
        simp only [bne_self_eq_false, Bool.false_eq_true, if_false]
        rw [← List.filter_append]
        exact List.length_filter_le _ _
      simp at h3 ⊢
      omega
    omega
  unfold inn
  rw [if_neg (by omega)]
set_option maxHeartbeats 3200000 in
set_option maxRecDepth 1000000 in
theorem qread_hand (y : Pge) (hn : y.n < 4294967296) (h : Qp w p r S most A O) (hA : A.length ≤ 100000) (hr : y.n < S.ls.length / 8) (hy : y ∈ A) :
    Calls Tryz.prog 25 #[.pointer (some ⟨p, 0, none⟩), .int .u32 (y.n : Int)] w fun e w' => ∃ a l c O', e = .returned (.tuple #[.int .u8 (y.k : Int), .slice a l c, .int .u16 0]) ∧ (Sl w' (.slice a l c) y.pl ∧ Byts y.pl) ∧ Qp w' p r S most (wo A y.n ++ [y]) O' ∧ Go1 O w O' w' := by
  have hmo := h.mo
  obtain ⟨O1, v, H, h1, h2, rfl, h4, h5⟩ := h
  obtain ⟨z, hz, rfl⟩ := List.mem_map.1 hy
  obtain ⟨u, t, hH⟩ := List.append_of_mem hz
  have HE := hide (inn_used hmo.2.2.2.1 hmo.2.2.1 hy)
  have hux : ∀ q ∈ u, q.1.n ≠ z.1.n := fun q hq e => by
    have hn := h2.nums
    rw [hH, List.map_append, List.map_cons] at hn
    exact (List.nodup_append.1 hn).2.2 _ (List.mem_map_of_mem (f := fun z : Hn => z.1.n) hq) _ (List.mem_cons_self) e
  have HF := hide (qfind_any h2 z.1.n u.length (by rw [hH]; simp) (fun q hq => by rw [hH, List.take_left] at hq; exact hux q hq) (u.length : Int) (.inr ⟨z, by rw [hH]; simp, rfl, rfl⟩))
  obtain ⟨vl, Ls, vc, Cs, f, g1, g1'⟩ := h1
  have HP := hide (rpages_any g1)
  have H1 : Hid (RdAt w r S O1) := ⟨vl, Ls, vc, Cs, f, g1, g1'⟩
  have k0 := h2.c0
  obtain ⟨N, HN⟩ : ∃ N, Hid (N = S.ls.length / 8) := ⟨_, rfl⟩
  rw [← HN.out] at HP hr
  have wr := convU z.1.n hn
  obtain ⟨ga, go, gc, rfl⟩ := h2.lies hz
  have k2 := h2.c2
  obtain ⟨x0, x1, x2⟩ := h2.hand hH
  obtain ⟨i, HI⟩ : ∃ i, Hid (i = u.length) := ⟨_, rfl⟩
  obtain ⟨M, HM⟩ : ∃ M, Hid (M = H.length) := ⟨_, rfl⟩
  have hiM : i < M := by rw [HI.out, HM.out, hH]; simp
  rw [← HI.out] at x0 x1 x2 HF
  rw [← HM.out] at k2
  have hsl := h2.pay z hz
  obtain ⟨pa, pc, hz2, -⟩ := hsl.1.shape
  have hpn : ∃ pn, Hid (pn = z.1.pl.length) := ⟨_, rfl⟩
  obtain ⟨pn, HPn⟩ := hpn
  rw [← HPn.out] at hz2
  rw [hz2] at x2
  have HQ := hide h2
  have HU : Hid (∀ W, Below w.heap.size w W → Calls Tryz.prog 59 #[.pointer (some ⟨p, 0, none⟩), .agg #[.int .u32 (z.1.n : Int), .int .u8 (z.1.k : Int), .slice pa pn pc]] W fun e w' => e = .returned (.tuple #[]) ∧ Used W w' p r most (.slice (some ⟨ga, go, none⟩) H.length gc) (.slice pa pn pc) H z.1) := fun W hW =>
    quse_any (HQ.out.below hW) (by simpa using hA) z.1 pa pn pc ((HQ.out.below hW).pay z hz |>.1 |> (hz2 ▸ ·)) hsl.2 hn (HQ.out.rg z hz).2
  have HG : Hid (∀ W w', Below w.heap.size w W → Used W w' p r most (.slice (some ⟨ga, go, none⟩) H.length gc) (.slice pa pn pc) H z.1 → (Sl w' (.slice pa pn pc) z.1.pl ∧ Byts z.1.pl) ∧ (∃ O', Qp w' p r S most (wo (H.map (·.1)) z.1.n ++ [z.1]) O' ∧ Go1 O w O' w') ∧ ∀ k, w.heap.size ≤ k → k < W.heap.size → w'.heap[k]? = W.heap[k]?) := fun W w' hW hu => by
    have hq := HQ.out.below hW
    obtain ⟨O', a1, a2, a3⟩ := qp_used (O := O) h5 (H1.out.below hW) hq h4 hu (fun k hk hk2 => h4 k hk2 (.inr (.inr ⟨z, hz, by rw [hz2]; exact hk⟩)))
    rw [HE.out] at a1
    refine ⟨?_, ⟨O', a1, ⟨(Mv.of_below hW).trans' a2, fun k hk => ?_⟩⟩, fun k hk hk2 => hu.mv.block k hk2 (fun h => ?_)⟩
    · have hs : Sl W (.slice pa pn pc) z.1.pl := hz2 ▸ (hq.pay z hz).1
      refine ⟨Own.of_block hs fun k hk => hu.mv.block k (Own.lt hs hk) (fun h => ?_), hsl.2.2⟩
      rcases h with rfl | h
      · exact hq.px hz (by rw [hz2]; exact hk)
      · exact hq.vx hz h (by rw [hz2]; exact hk)
    · rcases a3 k hk with h | h | h
      · exact .inl h
      · exact .inl ((h5 k).2 (.inr (.inr (.inr ⟨z, hz, by rw [hz2]; exact h⟩))))
      · exact .inr (Nat.le_trans hW.size h)
    · have : k < w.heap.size := HQ.out.lt k (h.imp id .inl)
      omega
  have d1 : ¬ (N : Int) ≤ (z.1.n : Int) := by omega
  have d2 : (0 : Int) ≤ (i : Int) := by omega
  have d3 : (i : Int) < (M : Int) := by omega
  have d4 : i < M := hiM
  have hzr := zeroHn
  clear h2 h4 h5 hr hH hux hsl hz2 g1 g1' hmo hy hn hA HN
  go_enter Tryz.func25, Tryz.ntmps25
  go_wp2_with (first
    | (go_at_call 57; refine HP.out.mono ?_; rintro e w1 ⟨rfl, rfl⟩)
    | (go_at_call 58; refine HF.out.mono ?_; rintro e w1 ⟨rfl, rfl⟩)
    | (go_at_call 59; refine (HU.out _ (below_alloc _ _)).mono ?_; rintro e w2 ⟨rfl, hu⟩; obtain ⟨j1, ⟨O', j2, j3⟩, j4⟩ := HG.out _ _ (below_alloc _ _) hu; have hbx := (j4 w1.heap.size (Nat.le_refl _) (by simp)).trans (heap_alloc_new w1 _); have y1 : w2.cell? ⟨w1.heap.size, 1, none⟩ = some (.int .u8 (z.1.k : Int)) := (by simp [World.cell?, hbx]); have y2 : w2.cell? ⟨w1.heap.size, 2, none⟩ = some (.slice pa pn pc) := (by simp [World.cell?, hbx]); have J1 := hide j1; have J2 := hide j2; have J3 := hide j3; clear hu j1 j2 j3 j4 hbx x0 x1 x2 k0 k2))
  go_quiet (fail)
  go_wp2
  go_ret3
  exact ⟨_, _, _, O', rfl, ⟨Own.of_block J1.out.1 fun _ _ => rfl, J1.out.2⟩, J2.out.below (drewN_below _ _), J3.out.mv.drewN _, J3.out.own⟩
set_option maxHeartbeats 3200000 in
set_option maxRecDepth 1000000 in
theorem qread_io (n : Nat) (hn : n < 4294967296) (h : Qp w p r S most A O) (hr : n < S.ls.length / 8) (hx : n ∉ A.map Pge.n) (hc : S.n1 + 1 ≤ 1000000) (he : S.er S.s1 S.l1 ≠ 0) :
    Calls Tryz.prog 25 #[.pointer (some ⟨p, 0, none⟩), .int .u32 (n : Int)] w fun e w' => ∃ O', e = .returned (.tuple #[.int .u8 0, .slice none 0 0, .int .u16 (S.er S.s1 S.l1 : Int)]) ∧ Qp w' p r (S.be S.op1) most A O' ∧ Go1 O w O' w' := by
  obtain ⟨O1, v, H, h1, h2, rfl, h4, h5⟩ := h
  have hxH : n ∉ H.map (·.1.n) := by rw [List.map_map] at hx; exact hx
  have HF := hide (qfind_any h2 n H.length (Nat.le_refl _) (fun y hy e => hxH (List.mem_map.2 ⟨y, List.mem_of_mem_take hy, e⟩)) (-1) (.inl ⟨rfl, rfl⟩))
  have HRd := hide (r_read r O1 S (n : Int) w h1 hc)
  have e1 : rdE S (n : Int) = S.er S.s1 S.l1 := by unfold rdE; rw [if_pos he]
  obtain ⟨vl, Ls, vc, Cs, f, g1, g1'⟩ := h1
  have HP := hide (rpages_any g1)
  have k0 := h2.c0
  obtain ⟨N, HN⟩ : ∃ N, Hid (N = S.ls.length / 8) := ⟨_, rfl⟩
  rw [← HN.out] at HP hr
  have wr := convU n hn
  obtain ⟨E, HEr⟩ : ∃ E, Hid (E = S.er S.s1 S.l1) := ⟨_, rfl⟩
  rw [e1, ← HEr.out] at HRd
  rw [← HEr.out] at he ⊢
  have he' : ((E : Int) == 0) = false := by simp; omega
  have HQ := hide h2
  have H4 := hide h4
  have H5 := hide h5
  have d1 : ¬ (N : Int) ≤ (n : Int) := by omega
  clear h2 h4 h5 hr g1 g1' hx hxH he hc e1
  go_enter Tryz.func25, Tryz.ntmps25
  go_wp2_with (first
    | (go_at_call 57; refine HP.out.mono ?_; rintro e w1 ⟨rfl, rfl⟩)
    | (go_at_call 58; refine HF.out.mono ?_; rintro e w1 ⟨rfl, rfl⟩)
    | (go_at_call 60; refine HRd.out.mono ?_; rintro e w2 ⟨v2, rfl, -, -, O2, b1, b2⟩; have B1 := hide b1; have B2 := hide b2; clear b1 b2 k0))
  go_ret3
  obtain ⟨q1, q2, q3⟩ := qp_disk (O := O) H5.out HQ.out H4.out B1.out B2.out
  exact ⟨_, rfl, ⟨O2, v, H, B1.out, q1, rfl, q2, fun k => Iff.rfl⟩, q3⟩
set_option maxHeartbeats 3200000 in
set_option maxRecDepth 1000000 in
theorem qread_disk (n : Nat) (hn : n < 4294967296) (h : Qp w p r S most A O) (hA : A.length ≤ 100000) (hr : n < S.ls.length / 8) (hx : n ∉ A.map Pge.n) (hc : S.n1 + 1 ≤ 1000000) (he : S.er S.s1 S.l1 = 0) (R : Option (Nat × List Int)) (hR : Pg.opn n (rd S (8 * n) 8) = R) :
    Calls Tryz.prog 25 #[.pointer (some ⟨p, 0, none⟩), .int .u32 (n : Int)] w fun e w' =>
      (R = none → ∃ O', e = .returned (.tuple #[.int .u8 0, .slice none 0 0, .int .u16 100]) ∧ Qp w' p r S.op1 most A O' ∧ Go1 O w O' w') ∧
      (∀ k pl, R = some (k, pl) → ∃ a l c O', e = .returned (.tuple #[.int .u8 (k : Int), .slice a l c, .int .u16 0]) ∧ (Sl w' (.slice a l c) pl ∧ Byts pl) ∧ Qp w' p r S.op1 most (inn most A ⟨n, k, pl⟩) O' ∧ Go1 O w O' w') := by
  obtain ⟨O1, v, H, h1, h2, rfl, h4, h5⟩ := h
  have hxH : n ∉ H.map (·.1.n) := by rw [List.map_map] at hx; exact hx
  have HF := hide (qfind_any h2 n H.length (Nat.le_refl _) (fun y hy e => hxH (List.mem_map.2 ⟨y, List.mem_of_mem_take hy, e⟩)) (-1) (.inl ⟨rfl, rfl⟩))
  have HRd := hide (r_read r O1 S (n : Int) w h1 hc)
  have hpg : Pgs S (n : Int) := ⟨by omega, by omega⟩
  have e1 : rdE S (n : Int) = 0 := by unfold rdE; rw [if_neg (by omega), if_pos hpg]
  have e2 : rdB S (n : Int) = rd S (8 * n) 8 := by unfold rdB; rw [if_pos ⟨he, hpg⟩]; simp
  rw [e1, e2, be_zero he] at HRd
  have hgd := h1.good
  have hby : Byts (rd S (8 * n) 8) := rd_byts hgd _ _ (by omega)
  have HSome : Hid (∀ k pl, R = some (k, pl) → k < 256 ∧ pl.length ≤ 1008 ∧ Byts pl) := hide fun k pl hh => by
    rw [← hR] at hh
    obtain ⟨q1, q2, q3, q4⟩ := Pg.opn_some hh
    refine ⟨by omega, q3, ?_⟩
    have h2 := Pg.pg_payload k n pl
    rw [← q4] at h2
    rw [← h2]
    exact (hby.drop _).take _
  obtain ⟨vl, Ls, vc, Cs, f, g1, g1'⟩ := h1
  have HP := hide (rpages_any g1)
  have k0 := h2.c0
  obtain ⟨N, HN⟩ : ∃ N, Hid (N = S.ls.length / 8) := ⟨_, rfl⟩
  rw [← HN.out] at HP hr
  have wr := convU n hn
  have HOp : Hid (∀ W a l c, Own W (.slice a l c) (rd S (8 * n) 8) → Calls Tryz.prog 61 #[.int .u32 (n : Int), .slice a l c] W fun e w' => OpOut R W e w') := fun W a l c ho => by
    have := ropen_any (number := n) hn (own_inn ho hby)
    rwa [hR] at this
  have HWo := hide (wo_no hxH)
  have hHl : H.length ≤ 100000 := by simpa using hA
  have HHl := hide hHl
  have HQ := hide h2
  have H4 := hide h4
  have H5 := hide h5
  have d1 : ¬ (N : Int) ≤ (n : Int) := by omega
  have hn2 := hide hn
  clear h2 h4 h5 hr g1 g1' hx hxH he hc e1 e2 hpg hgd hby hR hA hHl hn
  generalize rd S (8 * n) 8 = zs at *
  cases R with
  | none =>
    go_enter Tryz.func25, Tryz.ntmps25
    go_wp2_with (first
      | (go_at_call 57; refine HP.out.mono ?_; rintro e w1 ⟨rfl, rfl⟩)
      | (go_at_call 58; refine HF.out.mono ?_; rintro e w1 ⟨rfl, rfl⟩)
      | (go_at_call 60; refine HRd.out.mono ?_; rintro e w2 ⟨v2, rfl, b0, -, O2, b1, b2⟩; obtain ⟨a2, n2, c2, rfl, HN2⟩ := Own.shape2 b0; have B0 := hide b0; have B1 := hide b1; have B2 := hide b2; have HO2 := hide (HOp.out _ _ _ _ b0); clear b0 b1 b2 k0)
      | (go_at_call 61; refine HO2.out.mono ?_; rintro e w3 ⟨-, ho⟩; obtain ⟨rfl, hb⟩ := ho rfl; have B3 := hide hb; clear hb))
    go_ret3
    obtain ⟨q1, q2, q3⟩ := qp_disk (O := O) H5.out HQ.out H4.out B1.out B2.out
    refine ⟨fun _ => ⟨_, rfl, Qp.below ⟨O2, v, H, B1.out, q1, rfl, q2, fun k => Iff.rfl⟩ B3.out, q3.trans (Go1.of_below B3.out)⟩, fun k pl h => by cases h⟩
  | some kp =>
    obtain ⟨kd, pl⟩ := kp
    obtain ⟨s1, s2, s3⟩ := HSome.out kd pl rfl
    have HS2 := hide (And.intro s2 s3)
    have HU : Hid (∀ W a l c, Qm W p r most v H → Sl W (.slice a l c) pl → Calls Tryz.prog 59 #[.pointer (some ⟨p, 0, none⟩), .agg #[.int .u32 (n : Int), .int .u8 (kd : Int), .slice a l c]] W fun e w' => e = .returned (.tuple #[]) ∧ Used W w' p r most v (.slice a l c) H ⟨n, kd, pl⟩) := fun W a l c hq hs =>
      quse_any hq HHl.out ⟨n, kd, pl⟩ a l c hs HS2.out hn2.out s1
    have hbd : ∀ (a : Option Addr) (l c : Nat) (W : World), (Instr.build 159 #[(0, .int .u32 (n : Int)), (1, .int .u8 (kd : Int)), (2, .slice a l c)]).run Tryz.prog W = .ok (.agg #[.int .u32 (n : Int), .int .u8 (kd : Int), .slice a l c]) W := fun a l c W => run_build W 159 _ _ (by kernel_rfl)
    clear s1 s2 s3
    go_enter Tryz.func25, Tryz.ntmps25
    go_wp2_with (first
      | (go_at_call 57; refine HP.out.mono ?_; rintro e w1 ⟨rfl, rfl⟩)
      | (go_at_call 58; refine HF.out.mono ?_; rintro e w1 ⟨rfl, rfl⟩)
      | (go_at_call 60; refine HRd.out.mono ?_; rintro e w2 ⟨v2, rfl, b0, -, O2, b1, b2⟩; obtain ⟨a2, n2, c2, rfl, HN2⟩ := Own.shape2 b0; have B0 := hide b0; have B1 := hide b1; have B2 := hide b2; have HO2 := hide (HOp.out _ _ _ _ b0); clear b0 b1 b2 k0)
      | (go_at_call 61; refine HO2.out.mono ?_; rintro e w3 ⟨ho, -⟩; obtain ⟨v3, rfl, m1, m2, m3⟩ := ho kd pl rfl; obtain ⟨a3, n3, c3, rfl, HN3⟩ := Own.shape2 m1; have M1 := hide m1; have M2 := hide m2; have M3 := hide m3; have hq3 := (qp_disk (O := O) H5.out HQ.out H4.out B1.out B2.out); have Q3 := hide (hq3.1.below m3); have HU3 := hide (HU.out _ _ _ _ Q3.out m1); clear ho m1 m2 m3 hq3)
      | (go_at_call 59; refine HU3.out.mono ?_; rintro e w4 ⟨rfl, hu⟩; have U4 := hide hu; clear hu))
    go_ret3
    obtain ⟨q1, q2, q3⟩ := qp_disk (O := O) H5.out HQ.out H4.out B1.out B2.out
    have hd3 := B1.out.below M3.out
    have hnO : ∀ k, (Value.slice a3 n3 c3).ownBlock = some k → ¬ O2 k := fun k hk ho => by
      have h1 := M2.out k hk
      have h2 := B1.out.lt k ho
      omega
    obtain ⟨O', r1, r2, r3⟩ := qp_used (O := fun k => O2 k ∨ OwQ p v H k) (fun k => Iff.rfl) hd3 Q3.out q2 U4.out hnO
    refine ⟨(fun h => by cases h), fun k pl' h => ?_⟩
    cases h
    rw [HWo.out] at r1
    refine ⟨_, _, _, O', rfl, ?_, r1, q3.trans ⟨(Mv.of_below M3.out).trans' r2, fun k hk => ?_⟩⟩
    · refine ⟨Own.of_block M1.out fun k hk => U4.out.mv.block k (Own.lt M1.out hk) (fun h => ?_), HS2.out.2⟩
      have h1 := M2.out k hk
      have h2 := q1.lt k (h.imp id .inl)
      omega
    · rcases r3 k hk with h | h | h
      · exact .inl h
      · exact .inr (M2.out k h)
      · exact .inr (Nat.le_trans M3.out.size h)
end Go.Proofs.YtlmofgfkclfgeaaGreat
/- The document's own pool over its disk: Forget, Write, New. -/
namespace Go.Proofs.YtlmofgfkclfgeaaGreat
open Go.RowKit Go.Maps
set_option linter.unusedVariables false
variable {w w' w1 w2 w3 : World} {p r most : Nat} {S S' : DS} {A : List Pge} {O O1 O1' : Nat → Prop} {v pv : Value} {H : List Hn} {x : Pge}

theorem qp_gone {v' : Value} {H' : List Hn} (hO : ∀ k, O k ↔ O1 k ∨ OwQ p v H k) (hd : RdAt w r S O1) (hs : ∀ k, O1 k → ¬ OwQ p v H k) (a1 : Qm w' p r most v' H') (a3 : ∀ y ∈ H', y ∈ H) (a4 : ∀ k, v'.ownBlock = some k → v.ownBlock = some k ∨ w.heap.size ≤ k) (hm : Mv (fun k => k = p) w w') :
    ∃ O', Qp w' p r S most (H'.map (·.1)) O' ∧ Go1 O w O' w' := by
  have hn : ∀ k, OwQ p v' H' k → OwQ p v H k ∨ w.heap.size ≤ k := fun k hk => by
    rcases hk with rfl | hk | ⟨y, hy, hk⟩
    · exact .inl (.inl rfl)
    · exact (a4 k hk).imp (fun h => .inr (.inl h)) id
    · exact .inl (.inr (.inr ⟨y, a3 y hy, hk⟩))
  have hd' : RdAt w' r S O1 := hd.other hm fun k hk h => hs k hk (.inl h)
  refine ⟨fun k => O1 k ∨ OwQ p v' H' k, ⟨O1, v', H', hd', a1, rfl, fun k hk h => ?_, fun k => Iff.rfl⟩, hm.mono fun k hk => (hO k).2 (.inr (.inl hk)), fun k hk => ?_⟩
  · rcases hn k h with h | h
    · exact hs k hk h
    · have := hd.lt k hk; omega
  · rcases hk with hk | hk
    · exact .inl ((hO k).2 (.inl hk))
    · exact (hn k hk).imp (fun h => (hO k).2 (.inr h)) id
theorem qp_forget (n : Nat) (h : Qp w p r S most A O) (hA : A.length ≤ 100000) :
    Calls Tryz.prog 69 #[.pointer (some ⟨p, 0, none⟩), .int .u32 (n : Int)] w fun e w' => e = .returned (.tuple #[]) ∧ ∃ O', Qp w' p r S most (wo A n) O' ∧ Go1 O w O' w' := by
  obtain ⟨O1, v, H, h1, h2, rfl, h4, h5⟩ := h
  refine (qforget_all h2 n (by simp at hA; omega)).mono ?_
  rintro e w' ⟨v', H', rfl, a1, a2, a3, -, a4, hm⟩
  rw [← a2]
  exact ⟨rfl, qp_gone h5 h1 h4 a1 a3 a4 hm⟩
theorem wrE_eq (S : DS) (n : Nat) (h : n < S.ls.length / 8) : wrE S (n : Int) 1024 = S.er S.s2 S.l2 := by
  unfold wrE
  have hp : Pgs S (n : Int) := ⟨by omega, by omega⟩
  by_cases he : S.er S.s2 S.l2 = 0
  · rw [if_neg (by omega), if_neg (by simpa using hp), if_pos (.inl rfl), he]
  · rw [if_pos he]
theorem wrS_eq (S : DS) (n : Nat) (zs : List Int) (h : n < S.ls.length / 8) (hz : zs.length = 1024) : wrS S (n : Int) zs = S.wr n zs 8 := by
  unfold wrS DS.wr
  have hp : Pgs S (n : Int) := ⟨by omega, by omega⟩
  by_cases he : S.er S.s2 S.l2 = 0
  · rw [if_pos ⟨he, hp, hz⟩, if_pos he]; simp
  · rw [if_neg (fun h => he h.1), if_neg (fun h => he h.1), if_neg he]
set_option maxHeartbeats 1600000 in
set_option maxRecDepth 1000000 in
theorem qnew_no (M : Int) (d : Value) (h : M < 1) : Calls Tryz.prog 8 #[d, .int .i64 M] w fun e w' => e = .returned (.tuple #[.pointer none, .int .u16 1]) ∧ w' = w := by
  have d1 : decide (M < 1) = true := by simp [h]
  clear h
  go_enter Tryz.func8, Tryz.ntmps8
  go_wp2
  go_ret2
  exact ⟨rfl, rfl⟩
theorem buildQ (d : Nat) (x : Int) (W : World) : (Instr.build 109 #[(0, .pointer (some ⟨d, 0, none⟩)), (1, .int .i64 x)]).run Tryz.prog W = .ok (.agg #[.pointer (some ⟨d, 0, none⟩), .int .i64 x, .slice none 0 0]) W := run_build W 109 _ _ (by kernel_rfl)
set_option maxHeartbeats 1600000 in
set_option maxRecDepth 1000000 in
theorem qnew_any (mo : Nat) (M : Int) (hM : M = (mo : Int)) (h : RdAt w r S O1) (h1 : 1 ≤ mo) (h2 : mo ≤ 9223372036854775807) :
    Calls Tryz.prog 8 #[.pointer (some ⟨r, 0, none⟩), .int .i64 M] w fun e w' => ∃ p O', e = .returned (.tuple #[.pointer (some ⟨p, 0, none⟩), .int .u16 0]) ∧ Qp w' p r S mo [] O' ∧ Go1 O1 w O' w' := by
  subst hM
  have d1 : decide ((mo : Int) < 1) = false := by simp; omega
  have HD := hide h
  have HM := hide (And.intro h1 h2)
  have hb := buildQ
  clear h h1 h2
  go_enter Tryz.func8, Tryz.ntmps8
  go_wp2
  go_ret2
  have hb := below_alloc w (.cells #[.pointer (some ⟨r, 0, none⟩), .int .i64 (mo : Int), .slice none 0 0] 109)
  refine ⟨w.heap.size, fun k => O1 k ∨ OwQ w.heap.size (.slice none 0 0) [] k, rfl, ⟨O1, .slice none 0 0, [], HD.out.below hb, ⟨heap_alloc_new w _, Rof.nil _ _ _, by simp, by simp, by simp, by simp, HM.out⟩, rfl, fun k hk h => ?_, fun k => Iff.rfl⟩, ⟨Mv.of_below hb, fun k hk => ?_⟩⟩
  · have := HD.out.lt k hk
    rcases h with rfl | h | ⟨y, hy, _⟩
    · omega
    · simp [Value.ownBlock] at h
    · simp at hy
  · rcases hk with hk | rfl | h | ⟨y, hy, _⟩
    · exact .inl hk
    · exact .inr (Nat.le_refl _)
    · simp [Value.ownBlock] at h
    · simp at hy
end Go.Proofs.YtlmofgfkclfgeaaGreat
