/- Each call of PoolDoes, told of all that there is: the rest. -/
import Derived.Test.YtobokocpapfjbaaGreatVI
import Derived.Test.YtobokocpapfjbaaGreatPM1
namespace Go.Proofs.YtobokocpapfjbaaGreat
open Go.RowKit Go.Maps
set_option linter.unusedVariables false
variable {P Q P' Q' X Y : Th} {w0 w w' w1 w2 : World} {O O' O1 : Nat → Prop} {n pages c : Nat} {i : Ix} {S S2 : DS} {A A2 : List Pge}

theorem sw_forget (h : Sw i w0 w S A S2 A2 n X) (N : Nat) (hN : N < 4294967296) : Calls Tryz.prog 21 #[.pointer (some ⟨i.p, 0, none⟩), .int .u32 (N : Int)] w fun e w' => e = .returned (.tuple #[]) ∧ Sw i w0 w' S (wo A N) S2 A2 n X := by
  obtain ⟨O1, hp, _, hgo⟩ := h.xx
  refine (forget_any N hN hp).mono ?_
  rintro e w' ⟨rfl, OO', f1, f2⟩
  exact ⟨rfl, hgo f1 f2⟩
theorem sw_rforget (h : Sw i w0 w S A S2 A2 n X) (hA : A2.length ≤ 1000) (N : Nat) : Calls Tryz.prog 22 #[.pointer (some ⟨i.p2, 0, none⟩), .int .u32 (N : Int)] w fun e w' => e = .returned (.tuple #[]) ∧ Sw i w0 w' S A S2 (wo A2 N) n X := by
  obtain ⟨O1, hp, _, hgo⟩ := h.rr
  refine (qp_forget N hp (by omega)).mono ?_
  rintro e w' ⟨rfl, OO', f1, f2⟩
  exact ⟨rfl, hgo f1 f2⟩
theorem sw_sync (h : Sw i w0 w S A S2 A2 n X) (hl : Live S pages c) (hc : c ≤ 5000) : Calls Tryz.prog 23 #[.pointer (some ⟨i.p, 0, none⟩)] w fun e w' => e = .returned (.int .u16 (S.er S.s3 S.l3 : Int)) ∧ Sw i w0 w' S.sy A S2 A2 n X := by
  obtain ⟨O1, hp, _, hgo⟩ := h.xx
  have h3 := hl.n3
  refine (psync_any hp (by omega)).mono ?_
  rintro e w' ⟨rfl, OO', f1, f2⟩
  exact ⟨rfl, hgo f1 f2⟩
theorem sw_rsync (h : Sw i w0 w S A S2 A2 n X) (hl : Live S2 pages c) (hc : c ≤ 5000) : Calls Tryz.prog 24 #[.pointer (some ⟨i.r, 0, none⟩)] w fun e w' => e = .returned (.int .u16 (S2.er S2.s3 S2.l3 : Int)) ∧ Sw i w0 w' S A S2.sy A2 n X := by
  obtain ⟨O1, hp, _, hgo⟩ := h.rr
  obtain ⟨O2, hd, _, hg2⟩ := hp.rd
  have h3 := hl.n3
  refine (r_sync i.r O2 S2 w hd (by omega)).mono ?_
  rintro e w' ⟨rfl, O', f1, f2⟩
  obtain ⟨O3, g1, g2⟩ := hg2 f1 f2
  exact ⟨rfl, hgo g1 g2⟩
theorem sw_fail (h : Sw i w0 w S A S2 A2 n X) (f m : Int) (hm : m ≤ 9223372036854775807) : Calls Tryz.prog 25 #[.pointer (some ⟨i.d, 0, none⟩), .int .i64 f, .int .i64 m] w fun e w' => e = .returned (.int .u16 (flE S f m : Int)) ∧ Sw i w0 w' (flS S f m) A S2 A2 n X := by
  obtain ⟨O1, hp, _, hgo⟩ := h.xx
  obtain ⟨O2, hd, _, hg2⟩ := hp.dk
  refine (d_fail i.d i.q O2 S f m w hd hm).mono ?_
  rintro e w' ⟨rfl, O', f1, f2⟩
  obtain ⟨O3, g1, g2⟩ := hg2 f1 f2
  exact ⟨rfl, hgo g1 g2⟩
theorem sw_rfail (h : Sw i w0 w S A S2 A2 n X) (f m : Int) (hm : m ≤ 9223372036854775807) : Calls Tryz.prog 26 #[.pointer (some ⟨i.r, 0, none⟩), .int .i64 f, .int .i64 m] w fun e w' => e = .returned (.int .u16 (flE S2 f m : Int)) ∧ Sw i w0 w' S A (flS S2 f m) A2 n X := by
  obtain ⟨O1, hp, _, hgo⟩ := h.rr
  obtain ⟨O2, hd, _, hg2⟩ := hp.rd
  refine (r_fail i.r O2 S2 f m w hd hm).mono ?_
  rintro e w' ⟨rfl, O', f1, f2⟩
  obtain ⟨O3, g1, g2⟩ := hg2 f1 f2
  exact ⟨rfl, hgo g1 g2⟩
theorem keep_far {ka : Option Addr} {bs : List Bool} (hk : BRow w0 ka bs) (hlo : ∀ k, O k → w0.heap.size ≤ k) : bs ≠ [] → ∀ ad, ka = some ad → ¬ O ad.block := fun h0 ad e ho => by
  have h1 := hk.lt h0 ad e
  have h2 := hlo _ ho
  omega
theorem sw_cut (h : Sw i w0 w S A S2 A2 n X) (ka : Option Addr) (kc : Nat) (bs : List Bool) (hk : BRow w0 ka bs) (hbl : bs.length ≤ 200000) : Calls Tryz.prog 27 #[.pointer (some ⟨i.d, 0, none⟩), .slice ka bs.length kc] w fun e w' => e = .returned (.tuple #[]) ∧ Sw i w0 w' (S.cut bs) A S2 A2 n X := by
  obtain ⟨O1, hp, hlo, hgo⟩ := h.xx
  obtain ⟨O2, hd, hs, hg2⟩ := hp.dk
  have hk' := brow_below hk h.bel
  refine (cut_any i.d i.q O2 S ka kc bs w hd hk' (keep_far hk fun k hk => hlo k (hs k hk)) (hk'.lt) (by omega)).mono ?_
  rintro e w' ⟨rfl, O', f1, f2⟩
  obtain ⟨O3, g1, g2⟩ := hg2 f1 f2
  exact ⟨rfl, hgo g1 g2⟩
theorem sw_rcut (h : Sw i w0 w S A S2 A2 n X) (ka : Option Addr) (kc : Nat) (bs : List Bool) (hk : BRow w0 ka bs) (hbl : bs.length ≤ 200000) : Calls Tryz.prog 28 #[.pointer (some ⟨i.r, 0, none⟩), .slice ka bs.length kc] w fun e w' => e = .returned (.tuple #[]) ∧ Sw i w0 w' S A (S2.cut bs) A2 n X := by
  obtain ⟨O1, hp, hlo, hgo⟩ := h.rr
  obtain ⟨O2, hd, hs, hg2⟩ := hp.rd
  have hk' := brow_below hk h.bel
  refine (r_cut i.r O2 S2 ka kc bs w hd hk' (keep_far hk fun k hk => hlo k (hs k hk)) (by omega)).mono ?_
  rintro e w' ⟨rfl, O', f1, f2⟩
  obtain ⟨O3, g1, g2⟩ := hg2 f1 f2
  exact ⟨rfl, hgo g1 g2⟩
/-- bytes are put into the book. -/
theorem sw_bytes {a : Option Addr} {l cc : Nat} {pl : List Int} (hX : Good X) (h : Sw i w0 w S A S2 A2 n (Bes X (Fb (.slice a l cc) pl))) (hn : n ≤ 1000) (hpl : pl.length ≤ 1008) :
    Calls Tryz.prog 14 #[.pointer (some ⟨i.bq, 0, none⟩), .slice a l cc] w fun e w' => e = .returned (.tuple #[]) ∧ Sw i w0 w' S A S2 A2 (n + 1) X ∧ (∀ u zs, Sl w u zs → Sl w' u zs) ∧ Sl w' (.slice a l cc) pl := by
  obtain ⟨_, O1, ⟨Ok, Oy, ⟨f, v, B, C, Z, k1, k2, k3, k4, k5, k6⟩, ⟨OX, Og, x1, ⟨x2, x3⟩, x4, x5⟩, y1, y2⟩, hlo, hgo⟩ := h.kk
  have hlen : pl.length = l := by
    obtain ⟨a', c', e, _⟩ := x2.shape
    cases e
    rfl
  have hap : ∀ k, Bo.rft n B k → ¬ ∃ ad, a = some ad ∧ ad.block = k := by
    rintro k hk ⟨ad, rfl, rfl⟩
    exact y1 ad.block ((k6 _).2 (.inr (.inr hk))) ((x5 _).2 (.inr ((x3 _).2 rfl)))
  refine (Bo.bookBytes_any i.bq f v k2 n B C Z a cc pl l hlen w k1 k4 x2 hap (by omega)).mono ?_
  rintro e w' ⟨rfl, v', b1, b2, b3, b4⟩
  have hty : ∀ u zs, Sl w u zs → ∀ k, u.ownBlock = some k → ¬ (k = i.bq ∨ Bo.blks v k) := fun u zs hu k hk hb => by
    have hu' : Bo.OwnK .u8 5 w u zs := hu
    rcases hb with rfl | hb
    · exact Bo.book_ne k1 hu' (by decide) hk
    · exact Bo.rows_ne hu' k4.list (by decide) k hk hb
  have hst : ∀ u zs, Sl w u zs → Sl w' u zs := fun u zs hu => Own.of_block hu fun k hk => b3.block k (Own.lt hu hk) (hty u zs hu k hk)
  have hq : ∀ k, (k = i.bq ∨ Bo.blks v k) → Ok k := fun k hk => (k6 k).2 (hk.imp id .inl)
  have hmx : Mv (fun k => k = i.bq ∨ Bo.blks v k) w w' := ⟨b3.os, b3.tape, b3.output, b3.size, b3.block⟩
  refine ⟨rfl, hgo (n' := n + 1) (Y := X) (O1' := fun k => (k = i.bq ∨ (Bo.blks v' k ∨ Bo.rft (n + 1) (Bo.putf B n a) k)) ∨ OX k) hX ⟨fun k => k = i.bq ∨ (Bo.blks v' k ∨ Bo.rft (n + 1) (Bo.putf B n a) k), OX, ⟨Bo.putf f 0 v', v', _, _, _, b1, Bo.putf_same _ _ _, fun j hj => by rw [Bo.putf_other _ _ _ _ hj]; exact k3 j hj, b2, fun j hj => ?_, fun k => Iff.rfl⟩, hX.other x1 hmx (fun k hk hb => y1 k (hq k hb) ((x5 k).2 (.inl hk))), fun k hk hx => ?_, fun k => Iff.rfl⟩ ⟨hmx.mono fun k hk => (y2 k).2 (.inl (hq k hk)), fun k hk => ?_⟩, hst, hst _ _ x2⟩
  · by_cases e : j = n
    · subst e; rw [Bo.putf_same]; omega
    · rw [Bo.putf_other _ _ _ _ e]; exact k5 j (by omega)
  · rcases hk with hk | hk | hk
    · exact y1 k ((k6 k).2 (.inl hk)) ((x5 k).2 (.inl hx))
    · rcases b4 k hk with h | h
      · exact y1 k ((k6 k).2 (.inr (.inl h))) ((x5 k).2 (.inl hx))
      · have := hX.lt x1 hx; omega
    · rcases Bo.rft_putf n B a k hk with h | ⟨ad, rfl, rfl⟩
      · exact y1 k ((k6 k).2 (.inr (.inr h))) ((x5 k).2 (.inl hx))
      · exact x4 _ hx ((x3 _).2 rfl)
  · rcases hk with (hk | hk | hk) | hk
    · exact .inl ((y2 k).2 (.inl ((k6 k).2 (.inl hk))))
    · exact (b4 k hk).imp (fun h => (y2 k).2 (.inl ((k6 k).2 (.inr (.inl h))))) id
    · rcases Bo.rft_putf n B a k hk with h | ⟨ad, rfl, rfl⟩
      · exact .inl ((y2 k).2 (.inl ((k6 k).2 (.inr (.inr h)))))
      · exact .inl ((y2 _).2 (.inr ((x5 _).2 (.inr ((x3 _).2 rfl)))))
    · exact .inl ((y2 k).2 (.inr ((x5 k).2 (.inl hk))))
theorem sw_own (h : Sw i w0 w S A S2 A2 n X) (hn : n ≤ 1000) : Calls Tryz.prog 35 #[.pointer (some ⟨i.bq, 0, none⟩)] w fun e w' => e = .returned (.bool true) ∧ Below w0.heap.size w0 w' := by
  obtain ⟨_, O1, ⟨Ok, Oy, ⟨f, v, B, C, Z, k1, k2, k3, k4, k5, k6⟩, _, _, y2⟩, hlo, _⟩ := h.kk
  refine (Bo.bookOwn_any i.bq f v k2 n B C Z w k1 k3 k4 (by omega) (fun j hj => by have := k5 j hj; omega)).mono ?_
  rintro e w' ⟨rfl, hk⟩
  have hb := h.bel
  refine ⟨rfl, hb.trans ⟨hk.os, hk.tape, hk.output, hk.size, fun k hkl => hk.block k (Nat.lt_of_lt_of_le hkl hb.size) (fun hr => ?_)⟩⟩
  have := hlo k ((y2 k).2 (.inl ((k6 k).2 (.inr (.inr hr)))))
  omega
end Go.Proofs.YtobokocpapfjbaaGreat
/- PoolDoes: how it begins and how it ends. -/
namespace Go.Proofs.YtobokocpapfjbaaGreat
open Go.RowKit Go.Maps
set_option linter.unusedVariables false
variable {P Q P' Q' X Y : Th} {w0 w w' w1 w2 : World} {O O' O1 : Nat → Prop} {n pages c : Nat} {i : Ix} {S S2 : DS} {A A2 : List Pge} {d q r : Nat}

set_option maxHeartbeats 1600000 in
set_option maxRecDepth 1000000 in
theorem pnew_no (M : Int) (dv : Value) (h : M < 1) : Calls Tryz.prog 10 #[dv, .int .i64 M] w fun e w' => e = .returned (.tuple #[.pointer none, .int .u16 1]) ∧ w' = w := by
  have d1 : decide (M < 1) = true := by simp [h]
  clear h
  go_enter Tryz.func10, Tryz.ntmps10
  go_wp2
  go_ret2
  exact ⟨rfl, rfl⟩
set_option maxHeartbeats 1600000 in
set_option maxRecDepth 1000000 in
theorem sw_pages (h : Sw i w0 w S A S2 A2 n X) (hl : Live S pages c) : Calls Tryz.prog 31 #[.pointer (some ⟨i.p, 0, none⟩)] w fun e w' => e = .returned (.int .i64 (pages : Int)) ∧ Below w.heap.size w w' := by
  obtain ⟨O1, ⟨O2, e, m, L, el, yo, hp, _, _⟩, _, _⟩ := h.xx
  have HP := hide hp.pages
  rw [hl.pg] at HP
  have c0 := hp.hd.c0
  clear hp hl h
  go_enter Tryz.func31, Tryz.ntmps31
  go_wp2_with (go_at_call 61; refine HP.out.mono ?_; rintro e w1 ⟨rfl, hb⟩; have HB := hide hb; clear hb)
  go_ret
  exact ⟨rfl, HB.out⟩
theorem sw_len (h : Sw i w0 w S A S2 A2 n X) : Calls Tryz.prog 30 #[.pointer (some ⟨i.p, 0, none⟩)] w fun e w' => e = .returned (.int .i64 (A.length : Int)) ∧ Below w.heap.size w w' := by
  obtain ⟨O1, hp, _, _⟩ := h.xx
  exact plen_any hp
theorem sw_has (h : Sw i w0 w S A S2 A2 n X) (x : Pge) (hx : x ∈ A) : Calls Tryz.prog 32 #[.pointer (some ⟨i.p, 0, none⟩), .int .u32 (x.n : Int)] w fun e w' => e = .returned (.bool true) ∧ Below w.heap.size w w' := by
  obtain ⟨O1, hp, _, _⟩ := h.xx
  have := phas_any x.n (hp.mo.2.2.2.2 x hx).1 hp
  rwa [decide_eq_true (List.mem_map.2 ⟨x, hx, rfl⟩)] at this
theorem sw_counts (h : Sw i w0 w S A S2 A2 n X) : Calls Tryz.prog 29 #[.pointer (some ⟨i.d, 0, none⟩)] w fun e w' => e = .returned (.agg #[.int .i64 S.n1, .int .i64 S.n2, .int .i64 S.n3]) ∧ Below w.heap.size w w' := by
  obtain ⟨O1, hp, _, _⟩ := h.xx
  exact pcounts hp
theorem sw_cells (h : Sw i w0 w S A S2 A2 n X) : w.cell? ⟨i.r, 5, none⟩ = some (.int .i64 S2.n1) ∧ w.cell? ⟨i.r, 6, none⟩ = some (.int .i64 S2.n2) ∧ w.cell? ⟨i.r, 7, none⟩ = some (.int .i64 S2.n3) ∧
    ∃ la lc, w.cell? ⟨i.p2, 2, none⟩ = some (.slice la A2.length lc) ∧ ∀ k x, A2[k]? = some x → ∃ g o, la = some ⟨g, o, none⟩ ∧ w.cell? ⟨g, o + k * 3, none⟩ = some (.int .u32 (x.n : Int)) := by
  obtain ⟨O1, ⟨O2, v, H, ⟨vl, Ls, vc, Cs, f, h1, _⟩, h2, h3, _, _⟩, _, _⟩ := h.rr
  refine ⟨h1.c 5 _ rfl, h1.c 6 _ rfl, h1.c 7 _ rfl, ?_⟩
  obtain ⟨a, cc, e, _⟩ := h2.shape
  have hl : H.length = A2.length := by rw [← h3, List.length_map]
  refine ⟨a, cc, by rw [h2.c2, e, hl], fun k x hk => ?_⟩
  rw [← h3, List.getElem?_map] at hk
  cases hy : H[k]? with
  | none => rw [hy] at hk; cases hk
  | some y =>
    rw [hy] at hk
    simp at hk
    have hkl : k < H.length := (List.getElem?_eq_some_iff.1 hy).1
    obtain ⟨u, z, t, hH, hu⟩ := split_at H hkl
    have hz : z = y := by
      have : H[k]? = some z := by rw [hH, ← hu]; simp
      rw [hy] at this
      cases this
      rfl
    obtain ⟨g, o, c', e2⟩ := h2.lies (x := z) (by rw [hH]; simp)
    rw [e2] at e
    cases e
    rw [e2] at h2
    have h4 := (h2.hand hH).1
    rw [hu, hz] at h4
    exact ⟨g, o, rfl, by rw [h4, ← hk]⟩
theorem sw_image (h : Sw i w0 w S A S2 A2 n X) : Calls Tryz.prog 33 #[.pointer (some ⟨i.d, 0, none⟩)] w fun e w' => ∃ v, e = .returned v ∧ Own w' v S.ls.flatten ∧ Below w.heap.size w w' := by
  obtain ⟨O1, hp, _, _⟩ := h.xx
  obtain ⟨O2, hd, _, _⟩ := hp.dk
  refine (image_any i.d i.q O2 S w hd).mono ?_
  rintro e w' ⟨v, rfl, h1, h2, h3⟩
  exact ⟨v, rfl, h1, h3⟩
theorem sw_rimage (h : Sw i w0 w S A S2 A2 n X) : Calls Tryz.prog 34 #[.pointer (some ⟨i.r, 0, none⟩)] w fun e w' => ∃ v, e = .returned v ∧ Own w' v S2.ls.flatten ∧ Below w.heap.size w w' := by
  obtain ⟨O1, hp, _, _⟩ := h.rr
  obtain ⟨O2, ⟨vl, Ls, vc, Cs, f, hd, _⟩, _, _⟩ := hp.rd
  refine (rimage_any hd).mono ?_
  rintro e w' ⟨v, rfl, h1, h2, h3⟩
  exact ⟨v, rfl, h1, h3⟩
/-- the box. -/
theorem Sw.bx {b : Nat} {o : Obj} (h : Sw i w0 w S A S2 A2 n (Bx b o)) : w.heap[b]? = some o := by
  obtain ⟨O1, h1, _⟩ := h.yy
  exact h1.1
theorem Sw.bx2 {b : Nat} {o : Obj} (h : Sw i w0 w S A S2 A2 n (Bes (Bx b o) Y)) : w.heap[b]? = some o := by
  obtain ⟨O1, ⟨_, _, h1, _⟩, _⟩ := h.yy
  exact h1.1
theorem Sw.box (h : Sw i w0 w S A S2 A2 n Emp) (o : Obj) : Sw i w0 (w.alloc o) S A S2 A2 n (Bx w.heap.size o) := by
  obtain ⟨O1, h1, _, h2⟩ := h.yy
  exact h2 (O1' := fun k => k = w.heap.size) goodBx ⟨heap_alloc_new w o, fun k => Iff.rfl⟩ ⟨Mv.of_below (below_alloc w o), fun k hk => .inr (by omega)⟩
theorem Sw.out (h : Sw i w0 w S A S2 A2 n X) : Sw i w0 w S A S2 A2 n Emp := by
  obtain ⟨O1, h1, _, h2⟩ := h.yy
  exact h2 (O1' := fun _ => False) goodEmp (fun _ h => h) ⟨Mv.refl _ _, fun k hk => hk.elim⟩
/-- the two disks alone. -/
def Sd (w0 w : World) (d q r : Nat) (S S2 : DS) : Prop := ∃ O, Bes (Dp d q S) (Rdp r S2) w O ∧ (∀ k, O k → w0.heap.size ≤ k) ∧ Below w0.heap.size w0 w
theorem Sd.on (h : Sd w0 w d q r S S2) (hb : Below w.heap.size w w') : Sd w0 w' d q r S S2 := by
  obtain ⟨O, h1, h2, h3⟩ := h
  exact ⟨O, (Bes.good goodD goodRd).other (P' := fun _ => False) h1 (Mv.of_below hb) (fun _ _ h => h), h2, h3.trans (hb.mono h3.size)⟩
theorem Sd.bel (h : Sd w0 w d q r S S2) : Below w0.heap.size w0 w := by obtain ⟨O, _, _, h⟩ := h; exact h
theorem sd_new {O1 O2 : Nat → Prop} (h1 : DkAt w1 d q S O1) (l1 : ∀ k, O1 k → w0.heap.size ≤ k) (b1 : Below w0.heap.size w0 w1) (h2 : RdAt w2 r S2 O2) (l2 : ∀ k, O2 k → w1.heap.size ≤ k) (b2 : Below w1.heap.size w1 w2) : Sd w0 w2 d q r S S2 := by
  refine ⟨fun k => O1 k ∨ O2 k, ⟨O1, O2, DkAt.below h1 b2, h2, fun k hk hk2 => ?_, fun k => Iff.rfl⟩, fun k hk => hk.elim (l1 k) (fun hk => Nat.le_trans b1.size (l2 k hk)), b1.trans (b2.mono b1.size)⟩
  have h3 := h1.lt k hk
  have h4 := l2 k hk2
  omega
theorem row_far {a : Option Addr} {zs : List Int} (hr : Row w0 a zs) (hlo : ∀ k, O k → w0.heap.size ≤ k) : zs ≠ [] → ∀ ad, a = some ad → ¬ O ad.block := fun h0 ad e ho => by
  rcases hr with h | ⟨b, off, rfl, hlt, _⟩
  · exact h0 h
  · cases e
    have := hlo _ ho
    simp only [] at this
    omega
theorem sd_write (h : Sd w0 w d q r S S2) (hl : Live S pages c) (hc : c ≤ 5000) (k : Nat) (a : Option Addr) (cap : Nat) (zs : List Int) (hr : Row w0 a zs) (h8 : Byts zs) (hz : zs.length = 1024) (hcap : 1024 ≤ cap) (hcm : cap ≤ 9223372036854775807) :
    ∃ z : Nat, Calls Tryz.prog 8 #[.pointer (some ⟨d, 0, none⟩), .int .i64 (k : Int), .slice a 1024 cap] w fun e w' => e = .returned (.int .u16 (z : Int)) ∧ Sd w0 w' d q r (wrS S (k : Int) zs) S2 := by
  obtain ⟨O, h1, h2, h3⟩ := h
  obtain ⟨O1, a1, a2, a3⟩ := h1.left goodRd
  have hws := hl.ws
  have hn2 := hl.n2
  refine ⟨wrE S (k : Int) 1024, (d_write d q O1 S (k : Int) a 1024 cap zs w a1 hz (hr.below h3) h8 hcap hcm (row_far hr fun k hk => h2 k (a2 k hk)) (by rw [hl.len]; omega) (by omega) (by omega)).mono ?_⟩
  rintro e w' ⟨rfl, O', f1, f2⟩
  obtain ⟨O3, g1, g2⟩ := a3 (P' := Dp d q (wrS S (k : Int) zs)) f1 f2
  exact ⟨rfl, O3, g1, go_sw h2 h3 g2⟩
theorem sd_rwrite (h : Sd w0 w d q r S S2) (hl : Live S2 pages c) (hc : c ≤ 5000) (k : Nat) (a : Option Addr) (cap : Nat) (zs : List Int) (hr : Row w0 a zs) (h8 : Byts zs) (hz : zs.length = 1024) (hcap : 1024 ≤ cap) (hcm : cap ≤ 9223372036854775807) :
    ∃ z : Nat, Calls Tryz.prog 9 #[.pointer (some ⟨r, 0, none⟩), .int .i64 (k : Int), .slice a 1024 cap] w fun e w' => e = .returned (.int .u16 (z : Int)) ∧ Sd w0 w' d q r S (wrS S2 (k : Int) zs) := by
  obtain ⟨O, h1, h2, h3⟩ := h
  obtain ⟨O1, a1, a2, a3⟩ := h1.right goodD
  have hws := hl.ws
  have hn2 := hl.n2
  refine ⟨wrE S2 (k : Int) 1024, (r_write r O1 S2 (k : Int) a 1024 cap zs w a1 hz (hr.below h3) h8 hcap hcm (row_far hr fun k hk => h2 k (a2 k hk)) (by omega) (by omega)).mono ?_⟩
  rintro e w' ⟨rfl, O', f1, f2⟩
  obtain ⟨O3, g1, g2⟩ := a3 (Q' := Rdp r (wrS S2 (k : Int) zs)) f1 f2
  exact ⟨rfl, O3, g1, go_sw h2 h3 g2⟩
theorem Live.wrS (h : Live S pages c) (k : Nat) (hk : k < pages) (zs : List Int) (hz : zs.length = 1024) : Live (wrS S (k : Int) zs) pages (c + 1) := by
  rw [wrS_eq S k zs (by rw [h.pg]; exact hk) hz]
  unfold DS.wr
  split
  · exact h.wr _ _
  · rw [h.be]; exact h.op2
/-- both pools. -/
def Sp (w0 w : World) (p d q r most : Nat) (S : DS) : Prop := ∃ O, Bes (Xp p d q S most []) (Rdp r S) w O ∧ (∀ k, O k → w0.heap.size ≤ k) ∧ Below w0.heap.size w0 w
theorem sd_pnew (h : Sd w0 w d q r S S) (mo : Nat) (h1 : 1 ≤ mo) (h2 : mo ≤ 9223372036854775807) : Calls Tryz.prog 10 #[.pointer (some ⟨d, 0, none⟩), .int .i64 (mo : Int)] w fun e w' => ∃ p, e = .returned (.tuple #[.pointer (some ⟨p, 0, none⟩), .int .u16 0]) ∧ Sp w0 w' p d q r mo S := by
  obtain ⟨O, h3, h4, h5⟩ := h
  obtain ⟨O1, a1, a2, a3⟩ := h3.left goodRd
  refine (pnew_any mo (mo : Int) rfl w a1 h1 h2).mono ?_
  rintro e w' ⟨p, OO, rfl, f1, f2⟩
  obtain ⟨O3, g1, g2⟩ := a3 (P' := Xp p d q S mo []) f1 f2
  exact ⟨p, rfl, O3, g1, go_sw h4 h5 g2⟩
def Sq (w0 w : World) (p d q p2 r most : Nat) (S : DS) : Prop := ∃ O, Bes (Xp p d q S most []) (Rp p2 r S most []) w O ∧ (∀ k, O k → w0.heap.size ≤ k) ∧ Below w0.heap.size w0 w
theorem sp_qnew {p mo : Nat} (h : Sp w0 w p d q r mo S) (h1 : 1 ≤ mo) (h2 : mo ≤ 9223372036854775807) : Calls Tryz.prog 11 #[.pointer (some ⟨r, 0, none⟩), .int .i64 (mo : Int)] w fun e w' => ∃ p2, e = .returned (.tuple #[.pointer (some ⟨p2, 0, none⟩), .int .u16 0]) ∧ Sq w0 w' p d q p2 r mo S := by
  obtain ⟨O, h3, h4, h5⟩ := h
  obtain ⟨O1, a1, a2, a3⟩ := h3.right goodX
  refine (qnew_any mo (mo : Int) rfl a1 h1 h2).mono ?_
  rintro e w' ⟨p2, OO, rfl, f1, f2⟩
  obtain ⟨O3, g1, g2⟩ := a3 (Q' := Rp p2 r S mo []) f1 f2
  exact ⟨p2, rfl, O3, g1, go_sw h4 h5 g2⟩
theorem sq_book {p p2 mo : Nat} (h : Sq w0 w p d q p2 r mo S) (o : Obj) (ho : Bo.Bk (w.alloc o) w.heap.size Bo.nilf) : Sw ⟨p, d, q, p2, r, w.heap.size, mo⟩ w0 (w.alloc o) S [] S [] 0 Emp := by
  obtain ⟨O, h3, h4, h5⟩ := h
  have hb := below_alloc w o
  have gd : Good (Bes (Xp p d q S mo []) (Rp p2 r S mo [])) := Bes.good goodX goodR
  refine ⟨goodEmp, fun k => O k ∨ (k = w.heap.size ∨ False), ⟨O, fun k => k = w.heap.size ∨ False, gd.other (P' := fun _ => False) h3 (Mv.of_below hb) (fun _ _ h => h), ⟨fun k => k = w.heap.size, fun _ => False, ⟨Bo.nilf, .slice none 0 0, _, _, _, ho, rfl, fun _ _ => rfl, Bo.fam_none _ (by decide), (fun j hj => absurd hj (Nat.not_lt_zero _)), fun k => ?_⟩, fun _ h => h, fun _ _ h => h, fun k => Iff.rfl⟩, fun k hk hk2 => ?_, fun k => Iff.rfl⟩, fun k hk => ?_, h5.trans (hb.mono h5.size)⟩
  · constructor
    · exact fun h => .inl h
    · rintro (h | h | ⟨j, hj, _⟩)
      · exact h
      · cases h
      · omega
  · have := gd.lt h3 hk
    rcases hk2 with h | h
    · omega
    · exact h
  · rcases hk with hk | hk | hk
    · exact h4 k hk
    · rw [hk]; exact h5.size
    · exact hk.elim
theorem Sw.good (h : Sw i w0 w S A S2 A2 n X) : S.Good := by
  obtain ⟨O1, hp, _, _⟩ := h.xx
  exact hp.good
theorem cell_bel {b o : Nat} {v : Value} (hb : Below w.heap.size w w') (h : w.cell? ⟨b, o, none⟩ = some v) : w'.cell? ⟨b, o, none⟩ = some v := (hb.cell (p := ⟨b, o, none⟩) (World.block_lt_of_cell? w _ h)).trans h
theorem own_below {v : Value} {zs : List Int} (h : Own w v zs) (hb : Below w.heap.size w w') : Own w' v zs := h.of_block fun k hk => hb.block k (h.lt hk)
theorem sameB_self (zs : List Int) : sameB zs zs = true := by
  first | simp [sameB] | (unfold sameB; simp)
theorem same_own {a b : Option Addr} {n n2 c1 c2 : Nat} {zs : List Int} (h : Own w (.slice a n c1) zs) (h2 : Own w (.slice b n2 c2) zs) (hz : zs.length ≤ 1000000) : Calls Tryz.prog 15 #[.slice a n c1, .slice b n2 c2] w fun e w' => e = .returned (.bool true) ∧ Below w.heap.size w w' := by
  obtain ⟨a', c', e, _, _, _, hr, _⟩ := h.shape
  cases e
  obtain ⟨a', c', e, _, _, _, hr2, _⟩ := h2.shape
  cases e
  have := sameb_any a b zs.length zs.length c1 c2 zs zs w rfl rfl (by omega) (by omega) hr hr2
  rwa [sameB_self] at this
end Go.Proofs.YtobokocpapfjbaaGreat
/- PoolDoes: what its walk wants. -/
namespace Go.Proofs.YtobokocpapfjbaaGreat
open Go.RowKit Go.Maps
set_option linter.unusedVariables false
theorem zeroA : ∀ w, (zeroValue 70).run Tryz.prog w = .ok (.agg #[.int .u8 0, .int .u32 0, .int .u8 0, .int .i64 0, .slice none 0 0, .slice none 0 0]) w := (zero_of_info (P := Tryz.prog) (t := 70) (v := .agg #[.int .u8 0, .int .u32 0, .int .u8 0, .int .i64 0, .slice none 0 0, .slice none 0 0]) (n := 6) (by kernel_rfl)).1
theorem buildB (W : World) : (Instr.build 66 #[]).run Tryz.prog W = .ok (.agg #[.slice none 0 0, .slice none 0 0, .slice none 0 0, .slice none 0 0, .slice none 0 0, .slice none 0 0, .slice none 0 0, .slice none 0 0, .slice none 0 0, .slice none 0 0, .slice none 0 0, .slice none 0 0, .slice none 0 0, .slice none 0 0, .slice none 0 0, .slice none 0 0, .slice none 0 0, .slice none 0 0, .slice none 0 0, .slice none 0 0, .slice none 0 0, .slice none 0 0, .slice none 0 0]) W := by kernel_rfl
/-- a page of an image that came in. -/
theorem img_row {w : World} {b off l cc : Nat} {iz : List Int} (h : Inn w (some ⟨b, off, none⟩) l cc iz) (k : Nat) (hk : 1024 * k + 1024 ≤ l) : Row w (some ⟨b, off + 1024 * k, none⟩) ((iz.drop (1024 * k)).take 1024) ∧ ((iz.drop (1024 * k)).take 1024).length = 1024 ∧ Byts ((iz.drop (1024 * k)).take 1024) :=
  ⟨h.row.within (1024 * k) 1024 (by rw [h.len]; omega) (by rw [h.len]; omega), by rw [List.length_take, List.length_drop, h.len]; omega, (h.byts.drop _).take _⟩
/-- the disks behind k pages of an image. -/
def imS (S : DS) (iz : List Int) : Nat → DS
  | 0 => S
  | k + 1 => wrS (imS S iz k) (k : Int) ((iz.drop (1024 * k)).take 1024)
theorem imS_live {S : DS} {pages : Nat} (h : Live S pages 0) (iz : List Int) : ∀ k, k ≤ pages → 1024 * k ≤ iz.length → Live (imS S iz k) pages k
  | 0, _, _ => h
  | k + 1, h1, h2 => (imS_live h iz k (by omega) (by omega)).wrS k (by omega) _ (by rw [List.length_take, List.length_drop]; omega)
end Go.Proofs.YtobokocpapfjbaaGreat
