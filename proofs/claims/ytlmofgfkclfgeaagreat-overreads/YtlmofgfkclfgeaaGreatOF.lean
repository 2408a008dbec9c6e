/- OverReads: disks, pools, what was read, a book: side by side. -/
import Derived.Test.YtlmofgfkclfgeaaGreatYR
import Derived.Test.YtlmofgfkclfgeaaGreatYO
import Derived.Test.YtlmofgfkclfgeaaGreatZK
import Derived.Test.YtlmofgfkclfgeaaGreatOD
namespace Go.Proofs.YtlmofgfkclfgeaaGreat
open Go.RowKit Go.Maps
set_option linter.unusedVariables false
variable {w w' w0 w1 w2 : World} {p d q p2 r most : Nat} {S S2 : DS} {A A2 : List Pge} {O O1 O2 OO : Nat → Prop}
set_option maxHeartbeats 1600000 in
set_option maxRecDepth 1000000 in
theorem samew_eq (w : World) (a b : Option Addr) (n c d : Nat) (zs : List Nat) (hl : zs.length = n) (hn : n ≤ 1000000) (h1 : Rw w a zs) (h2 : Rw w b zs) :
    Calls Tryz.prog 14 #[.slice a n c, .slice b n d] w fun e w' => e = .returned (.bool true) ∧ Same w w' := by
  have HL := hide hl
  have H1 := hide h1
  have H2 := hide h2
  have hnb : ((n : Int) != (n : Int)) = false := by simp
  clear hl h1 h2
  go_enter Tryz.func14, Tryz.ntmps14
  go_wp2
  go_loopw [5] (fun i wr => ∃ k : Nat, k ≤ n ∧ i = .int .i64 k ∧ Same w wr) (fun i _ => n - (intOf i).toNat)
  case atStart => exact ⟨0, Nat.zero_le _, rfl, Same.refl _⟩
  case round =>
    obtain ⟨k, hk, rfl, hs⟩ := hrel
    have HS := hide hs
    clear hs
    by_cases hlt : k < n
    · have hlk : k < zs.length := by have := HL.out; omega
      rcases H1.out.below HS.out.below with h0 | ⟨b1, o1, rfl, _, hc1⟩
      · subst h0; simp at hlk
      rcases H2.out.below HS.out.below with h0 | ⟨b2, o2, rfl, _, hc2⟩
      · subst h0; simp at hlk
      have g1 := hc1 k hlk
      have g2 := hc2 k hlk
      clear hc1 hc2
      generalize zs.getD k 0 = z at *
      have hbn : ((z : Int) != (z : Int)) = false := by simp
      go_wp2
      go_quiet (fail)
      go_wp2
      go_roundw
      case rel => exact ⟨k + 1, by omega, by go_num, HS.out.drewN _⟩
      case measure => simp [intOf]; omega
    · go_wp2
      go_ret
      exact ⟨rfl, HS.out⟩
set_option maxHeartbeats 1600000 in
set_option maxRecDepth 1000000 in
theorem pnew_no (M : Int) (dv : Value) (h : M < 1) : Calls Tryz.prog 7 #[dv, .int .i64 M] w fun e w' => e = .returned (.tuple #[.pointer none, .int .u16 1]) ∧ w' = w := by
  have d1 : decide (M < 1) = true := by simp [h]
  clear h
  go_enter Tryz.func7, Tryz.ntmps7
  go_wp2
  go_ret2
  exact ⟨rfl, rfl⟩

/-- the two disks. -/
structure L2 (w0 w : World) (d q r : Nat) (S : DS) (Od Or : Nat → Prop) : Prop where
  d : DkAt w d q S Od
  r : RdAt w r S Or
  ap : ∀ k, Od k → ¬ Or k
  lo : ∀ k, Od k ∨ Or k → w0.heap.size ≤ k
  bel : Below w0.heap.size w0 w
theorem Go1.bel {w0 w w' : World} {O O' : Nat → Prop} (hg : Go1 O w O' w') (hb : Below w0.heap.size w0 w) (hl : ∀ k, O k → w0.heap.size ≤ k) : Below w0.heap.size w0 w' ∧ ∀ k, O' k → w0.heap.size ≤ k :=
  ⟨hb.trans (hg.mv.below hb.size hl), fun k hk => (hg.own k hk).elim (hl k) (fun h => Nat.le_trans hb.size h)⟩
theorem Go1.apt {w w' : World} {O O' X : Nat → Prop} (hg : Go1 O w O' w') (ha : ∀ k, O k → ¬ X k) (hx : ∀ k, X k → k < w.heap.size) : ∀ k, O' k → ¬ X k := fun k hk hX =>
  (hg.own k hk).elim (fun h => ha k h hX) (fun h => by have := hx k hX; omega)
theorem l2_mk {N : Nat} {zs : List Int} {f : Nat} {vl : Value} {Ls : List Value} (hb : Below w0.heap.size w0 w) (hd : DkAt w1 d q ((DS.new N).las (lsk N zs N)) O) (hf : Fd w.heap.size w w1 O) (hr : RD w2 r vl Ls (.slice none 0 0) [] f (DS.of ((List.range N).map (sec zs)))) (hl : ∀ k, OwR r vl Ls (.slice none 0 0) [] f k → w1.heap.size ≤ k) (hb2 : Below w1.heap.size w1 w2) :
    ∃ Od Or, L2 w0 w2 d q r ((DS.new N).las (lsk N zs N)) Od Or := by
  rw [load_of] at hr
  have h1 : Below w0.heap.size w0 w1 := hb.trans (hf.below.mono hb.size)
  refine ⟨O, OwR r vl Ls (.slice none 0 0) [] f, hd.below hb2, ⟨vl, Ls, _, _, f, hr, fun k => Iff.rfl⟩, fun k hk h => ?_, fun k hk => ?_, h1.trans (hb2.mono h1.size)⟩
  · have := hd.lt k hk
    have := hl k h
    omega
  · rcases hk with hk | hk
    · exact Nat.le_trans hb.size (hf.own k hk)
    · exact Nat.le_trans h1.size (hl k hk)
/-- the program's pool and the document's disk. -/
structure L3 (w0 w : World) (p d q r most : Nat) (S : DS) (OO Or : Nat → Prop) : Prop where
  p : Pl w p d q S most [] OO
  r : RdAt w r S Or
  ap : ∀ k, OO k → ¬ Or k
  lo : ∀ k, OO k ∨ Or k → w0.heap.size ≤ k
  bel : Below w0.heap.size w0 w
theorem L2.pool {Od Or OO : Nat → Prop} (h : L2 w0 w d q r S Od Or) (hp : Pl w' p d q S most [] OO) (hg : Go1 Od w OO w') : L3 w0 w' p d q r most S OO Or := by
  obtain ⟨b1, b2⟩ := hg.bel h.bel (fun k hk => h.lo k (.inl hk))
  exact ⟨hp, h.r.other hg.mv fun k hk h1 => h.ap k h1 hk, hg.apt h.ap (fun k hk => h.r.lt k hk), fun k hk => hk.elim (b2 k) (fun hk => h.lo k (.inr hk)), b1⟩
/-- both pools. -/
structure L4 (w0 w : World) (p d q p2 r most : Nat) (S : DS) (A : List Pge) (S2 : DS) (A2 : List Pge) (OO O2 : Nat → Prop) : Prop where
  p : Pl w p d q S most A OO
  r : Qp w p2 r S2 most A2 O2
  ap : ∀ k, OO k → ¬ O2 k
  lo : ∀ k, OO k ∨ O2 k → w0.heap.size ≤ k
  bel : Below w0.heap.size w0 w
theorem L3.pool {OO Or O2 : Nat → Prop} (h : L3 w0 w p d q r most S OO Or) (hp : Qp w' p2 r S most [] O2) (hg : Go1 Or w O2 w') : L4 w0 w' p d q p2 r most S [] S [] OO O2 := by
  obtain ⟨b1, b2⟩ := hg.bel h.bel (fun k hk => h.lo k (.inr hk))
  exact ⟨h.p.other hg.mv fun k hk h1 => h.ap k hk h1, hp, fun k h1 h2 => hg.apt (fun k hk hx => h.ap k hx hk) (fun k hk => h.p.lt k hk) k h2 h1, fun k hk => hk.elim (fun hk => h.lo k (.inl hk)) (b2 k), b1⟩
theorem L4.one {OO O2 O3 : Nat → Prop} {S' : DS} {A' : List Pge} (h : L4 w0 w p d q p2 r most S A S2 A2 OO O2) (hp : Pl w' p d q S' most A' O3) (hg : Go1 OO w O3 w') : L4 w0 w' p d q p2 r most S' A' S2 A2 O3 O2 := by
  obtain ⟨b1, b2⟩ := hg.bel h.bel (fun k hk => h.lo k (.inl hk))
  exact ⟨hp, h.r.stays hg.mv.size fun k hk => hg.mv.block k (h.r.lt hk) fun h1 => h.ap k h1 hk, hg.apt h.ap (fun k hk => h.r.lt hk), fun k hk => hk.elim (b2 k) (fun hk => h.lo k (.inr hk)), b1⟩
theorem L4.two {OO O2 O3 : Nat → Prop} {S' : DS} {A' : List Pge} (h : L4 w0 w p d q p2 r most S A S2 A2 OO O2) (hp : Qp w' p2 r S' most A' O3) (hg : Go1 O2 w O3 w') : L4 w0 w' p d q p2 r most S A S' A' OO O3 := by
  obtain ⟨b1, b2⟩ := hg.bel h.bel (fun k hk => h.lo k (.inr hk))
  exact ⟨h.p.other hg.mv fun k hk h1 => h.ap k hk h1, hp, fun k h1 h2 => hg.apt (fun k hk hx => h.ap k hx hk) (fun k hk => h.p.lt k hk) k h2 h1, fun k hk => hk.elim (fun hk => h.lo k (.inl hk)) (b2 k), b1⟩
theorem L4.below {OO O2 : Nat → Prop} (h : L4 w0 w p d q p2 r most S A S2 A2 OO O2) (hb : Below w.heap.size w w') : L4 w0 w' p d q p2 r most S A S2 A2 OO O2 :=
  ⟨h.p.below hb, h.r.below hb, h.ap, h.lo, h.bel.trans (hb.mono h.bel.size)⟩
/-- all that the statement compares. -/
structure L5 (w0 w : World) (p d q p2 r most : Nat) (T : ChT) (OO O2 : Nat → Prop) (v l u m : Value) : Prop where
  l4 : L4 w0 w p d q p2 r most T.S T.A T.S T.A OO O2
  hv : Own w v T.v
  hl : OwnW w l T.ps
  hu : Own w u T.v
  hm : OwnW w m T.ps
  lov : ∀ k, v.ownBlock = some k ∨ l.ownBlock = some k → w0.heap.size ≤ k
theorem l5_mk {OO O2 O3 O4 : Nat → Prop} {T : ChT} {av al au am : Option Addr} {vn vc ln lc un uc mn mc : Nat} (h : L4 w0 w p d q p2 r most S A S A OO O2) (hv : Own w1 (.slice av vn vc) T.v) (hl : OwnW w1 (.slice al ln lc) T.ps) (hp : Pl w1 p d q T.S most T.A O3) (hg : Go1 OO w O3 w1)
    (hn : ∀ k, ((Value.slice av vn vc).ownBlock = some k ∨ (Value.slice al ln lc).ownBlock = some k) → w.heap.size ≤ k ∧ ¬ O3 k) (hc : Cs w1 w2 p2 r most T.S T.A O2 O4 (.slice au un uc) (.slice am mn mc) T.v T.ps) : L5 w0 w2 p d q p2 r most T O3 O4 (.slice av vn vc) (.slice al ln lc) (.slice au un uc) (.slice am mn mc) := by
  have h1 := h.one hp hg
  have h2 := h1.two hc.q hc.go
  have hk : ∀ k, ((Value.slice av vn vc).ownBlock = some k ∨ (Value.slice al ln lc).ownBlock = some k) → k < w1.heap.size → w2.heap[k]? = w1.heap[k]? := fun k hk hl => hc.go.mv.block k hl fun ho => by
    have := h.r.lt ho
    have := (hn k hk).1
    omega
  exact ⟨h2, hv.of_block fun k e => hk k (.inl e) (hv.lt e), hl.of_block fun k e => hk k (.inr e) (hl.lt e), hc.ov, by have := hc.op; rw [List.length_map] at this; exact this, fun k e => Nat.le_trans h.bel.size (hn k e).1⟩
theorem L5.below {OO O2 : Nat → Prop} {T : ChT} {v l u m : Value} (h : L5 w0 w p d q p2 r most T OO O2 v l u m) (hb : Below w.heap.size w w') : L5 w0 w' p d q p2 r most T OO O2 v l u m :=
  ⟨h.l4.below hb, h.hv.below hb, h.hl.of_block fun k hk => hb.block k (h.hl.lt hk), h.hu.below hb, h.hm.of_block fun k hk => hb.block k (h.hm.lt hk), h.lov⟩
theorem ownw_k {v : Value} {ys : List Nat} (h : OwnW w v ys) : Bo.OwnK .u32 23 w v (ys.map fun z : Nat => (z : Int)) := by
  unfold Bo.OwnK
  rw [List.length_map, List.map_map]
  exact h
section
variable {w7 w8 w9 w10 : World} {T : ChT} {av al au am : Option Addr} {vn vc ln lc un uc mn mc : Nat}
theorem fam_off {K : IntKind} {et lty : TypeId} {v : Value} {n bq : Nat} {A : Nat → Option Addr} {C : Nat → Nat} {Z : Nat → List Int} {f : Nat → Value} (h : Bo.Fam K et lty w v n A C Z) (hb : Bo.Bk w bq f) (e1 : lty ≠ 68) (e2 : et ≠ 68) (hm : Mv (fun k => k = bq) w w') : Bo.Fam K et lty w' v n A C Z :=
  h.of_block fun k hk => hm.block k (h.lt _ hk) fun e => by
    subst e
    rcases hk with hk | ⟨i, hi, hk⟩
    · exact Bo.book_ne hb h.list e1 hk
    · exact Bo.book_ne hb (h.rows i hi) e2 ((Bo.blks_rv _ _ _ _).2 hk)
theorem bk_bytes (h : L5 w0 w7 p d q p2 r most T OO O2 (.slice av vn vc) (.slice al ln lc) (.slice au un uc) (.slice am mn mc)) (hb : Below w7.heap.size w7 w8) (hk : Bo.Bk w8 w7.heap.size Bo.nilf) :
    Calls Tryz.prog 11 #[.pointer (some ⟨w7.heap.size, 0, none⟩), .slice av vn vc] w8 fun e w9 => e = .returned (.tuple #[]) ∧ ∃ v0 A C Z, Bo.Bk w9 w7.heap.size (Bo.putf Bo.nilf 0 v0) ∧ Bo.Fam .u8 5 22 w9 v0 1 (Bo.putf A 0 av) C (Bo.putf Z 0 T.v) ∧ Below w7.heap.size w7 w9 := by
  have h5 := h.below hb
  have hl : T.v.length = vn := by
    obtain ⟨a', c', e, _⟩ := h5.hv.shape
    cases e
    rfl
  refine (Bo.bookBytes_any w7.heap.size Bo.nilf _ rfl 0 (fun _ => none) (fun _ => 0) (fun _ => []) av vc T.v vn hl w8 hk (Bo.fam_none _ (by decide)) h5.hv (fun k ⟨i, hi, _⟩ => absurd hi (Nat.not_lt_zero _)) (by omega)).mono ?_
  rintro e w9 ⟨rfl, v0, b1, b2, b3, b4⟩
  refine ⟨rfl, v0, _, _, _, b1, b2, hb.trans (b3.below (B := w7.heap.size) (fun k hk => ?_) hb.size)⟩
  rcases hk with rfl | hk
  · exact Nat.le_refl _
  · simp [Bo.blks, Bo.nilf, Value.ownBlock] at hk
theorem bk_words {v0 : Value} {A : Nat → Option Addr} {C : Nat → Nat} {Z : Nat → List Int} (h : L5 w0 w7 p d q p2 r most T OO O2 (.slice av vn vc) (.slice al ln lc) (.slice au un uc) (.slice am mn mc)) (hb : Below w7.heap.size w7 w9) (hk : Bo.Bk w9 w7.heap.size (Bo.putf Bo.nilf 0 v0)) (hf : Bo.Fam .u8 5 22 w9 v0 1 (Bo.putf A 0 av) C (Bo.putf Z 0 T.v)) :
    Calls Tryz.prog 12 #[.pointer (some ⟨w7.heap.size, 0, none⟩), .slice al ln lc] w9 fun e w10 => e = .returned (.tuple #[]) ∧ ∃ v5 A5 C5 Z5, Bo.Bk w10 w7.heap.size (Bo.putf (Bo.putf Bo.nilf 0 v0) 5 v5) ∧ Bo.Fam .u8 5 22 w10 v0 1 (Bo.putf A 0 av) C (Bo.putf Z 0 T.v) ∧ Bo.Fam .u32 23 39 w10 v5 1 (Bo.putf A5 0 al) C5 (Bo.putf Z5 0 (T.ps.map fun z : Nat => (z : Int))) ∧ Below w7.heap.size w7 w10 := by
  have h5 := h.below hb
  have hl : (T.ps.map fun z : Nat => (z : Int)).length = ln := by
    obtain ⟨a', c', e, _⟩ := h5.hl.shape
    cases e
    rw [List.length_map]
  refine (Bo.bookWords_any w7.heap.size _ (.slice none 0 0) rfl 0 (fun _ => none) (fun _ => 0) (fun _ => []) al lc _ ln hl w9 hk (Bo.fam_none _ (by decide)) (ownw_k h5.hl) (fun k ⟨i, hi, _⟩ => absurd hi (Nat.not_lt_zero _)) (by omega)).mono ?_
  rintro e w10 ⟨rfl, v5, b1, b2, b3, b4⟩
  have hm : Mv (fun k => k = w7.heap.size) w9 w10 := ⟨b3.os, b3.tape, b3.output, b3.size, fun j hj hn => b3.block j hj fun hx => hx.elim hn (fun hx => by simp [Bo.blks, Value.ownBlock] at hx)⟩
  exact ⟨rfl, v5, _, _, _, b1, fam_off hf hk (by decide) (by decide) hm, b2, hb.trans (hm.below hb.size fun k hk => by rw [hk]; exact Nat.le_refl _)⟩
theorem bk_own {v0 v5 : Value} {A A5 : Nat → Option Addr} {C C5 : Nat → Nat} {Z Z5 : Nat → List Int} (h : L5 w0 w7 p d q p2 r most T OO O2 (.slice av vn vc) (.slice al ln lc) (.slice au un uc) (.slice am mn mc)) (hb : Below w7.heap.size w7 w) (hT : T.v.length ≤ 100000 ∧ T.ps.length ≤ 100000) (hk : Bo.Bk w w7.heap.size (Bo.putf (Bo.putf Bo.nilf 0 v0) 5 v5)) (hf : Bo.Fam .u8 5 22 w v0 1 (Bo.putf A 0 av) C (Bo.putf Z 0 T.v)) (hf5 : Bo.Fam .u32 23 39 w v5 1 (Bo.putf A5 0 al) C5 (Bo.putf Z5 0 (T.ps.map fun z : Nat => (z : Int)))) :
    Calls Tryz.prog 16 #[.pointer (some ⟨w7.heap.size, 0, none⟩)] w fun e w' => e = .returned (.bool true) ∧ Below w0.heap.size w0 w' ∧ w'.heap[r]? = w.heap[r]? := by
  refine (Bo.bookOwn_any w7.heap.size _ v0 rfl 1 _ _ _ v5 rfl 1 _ _ _ w hk (fun j h0 h5 => by rw [Bo.putf_other _ _ _ _ h5, Bo.putf_other _ _ _ _ h0]; rfl) hf (by omega) (fun i hi => ?_) hf5 (by omega) (fun i hi => ?_)).mono ?_
  · have : i = 0 := by omega
    subst this
    rw [Bo.putf_same]; omega
  · have : i = 0 := by omega
    subst this
    rw [Bo.putf_same, List.length_map]; omega
  · rintro e w' ⟨rfl, hkp⟩
    have h5 := h.below hb
    refine ⟨rfl, h5.l4.bel.trans (hkp.below (fun k hk => ?_) h5.l4.bel.size), ?_⟩
    rotate_left
    · obtain ⟨O2', v', H, ⟨vl, Ls, vc', Cs, f', h1, _⟩, _⟩ := h5.l4.r
      refine hkp.block r (lt_of_block h1.blk) ?_
      rintro (⟨i, hi, ad, e, e2⟩ | ⟨i, hi, ad, e, e2⟩)
      · obtain ⟨c1, g1, h4⟩ := row_type (hf.rows i hi) ((Bo.blks_rv _ _ _ r).2 ⟨ad, e, e2⟩)
        rw [h1.blk] at h4
        simp at h4
      · obtain ⟨c1, g1, h4⟩ := row_type (hf5.rows i hi) ((Bo.blks_rv _ _ _ r).2 ⟨ad, e, e2⟩)
        rw [h1.blk] at h4
        simp at h4
    rcases hk with ⟨i, hi, ad, e, rfl⟩ | ⟨i, hi, ad, e, rfl⟩
    · have : i = 0 := by omega
      subst this
      rw [Bo.putf_same] at e
      refine h.lov _ (.inl ?_)
      subst e
      have := h.hv
      rcases this.2 with ⟨e, _⟩ | ⟨g, cap, cur, e, _⟩ <;> cases e
      rfl
    · have : i = 0 := by omega
      subst this
      rw [Bo.putf_same] at e
      refine h.lov _ (.inr ?_)
      subst e
      have := h.hl
      rcases this.2 with ⟨e, _⟩ | ⟨g, cap, cur, e, _⟩ <;> cases e
      rfl
end
/-- what a chain comes to is never long. -/
theorem cht_len (first size : Nat) (T : ChT) (hT : (if needN size = 0 then ⟨[], [], 120, S, A⟩ else chn most size (needN size) (needN size) S A first [] []) = T) : T.v.length ≤ 100000 ∧ T.ps.length ≤ 100000 := by
  by_cases h0 : needN size = 0
  · rw [if_pos h0] at hT
    subst hT
    exact ⟨by simp, by simp⟩
  · rw [if_neg h0] at hT
    have hs : 65 ≤ size ∧ size ≤ 8192 ∧ needN size = (size + 1003) / 1004 := by
      unfold needN at h0 ⊢
      split at h0
      · rename_i h; exact ⟨h.1, h.2, if_pos h⟩
      · exact absurd rfl h0
    have hn : 1004 * (needN size - 1) + 1 ≤ size ∧ size ≤ 1004 * needN size := by omega
    obtain ⟨r, hr⟩ := rds_any (most := most) (S := S) (A := A) (a := first) (size := size) (n := needN size) (by omega)
    rw [hr.chn hn] at hT
    by_cases hb : okk most S A first size (r - 1) = true
    · rw [if_pos hb] at hT
      subst hT
      have hle := hr.le
      obtain ⟨h1, h2⟩ := vk_len (most := most) (S := S) (A := A) (a := first) (size := size) (r := r) (by omega) (hr.all hb)
      exact ⟨by show (vk most S A first r).length ≤ _; omega, by show (pk most S A first r).length ≤ _; omega⟩
    · rw [if_neg hb] at hT
      subst hT
      exact ⟨by simp, by simp⟩
theorem pread_any (h : Pl w p d q S most A OO) (hc : S.n1 + 20 ≤ 1000000) (first size : Nat) (hf : first < 4294967296) (hs : size < 4294967296) (T : ChT) (hT : (if needN size = 0 then ⟨[], [], 120, S, A⟩ else chn most size (needN size) (needN size) S A first [] []) = T) :
    Calls Tryz.prog 9 #[.pointer (some ⟨p, 0, none⟩), .int .u32 (first : Int), .int .u32 (size : Int)] w fun e w' => PrO w p d q most T OO e w' := by
  by_cases h0 : needN size = 0
  · rw [if_pos h0] at hT
    subst hT
    refine pread_big h hc first size hf hs ?_
    unfold needN at h0
    unfold need
    split at h0
    · omega
    · rw [if_pos (by omega)]
  · rw [if_neg h0] at hT
    have hs2 : 65 ≤ size ∧ size ≤ 8192 ∧ needN size = (size + 1003) / 1004 := by
      unfold needN at h0 ⊢
      split at h0
      · rename_i h; exact ⟨h.1, h.2, if_pos h⟩
      · exact absurd rfl h0
    obtain ⟨r, hr⟩ := rds_any (most := most) (S := S) (A := A) (a := first) (size := size) (n := needN size) (by omega)
    exact pread_chain h hc first size (needN size) r hf ⟨hs2.1, hs2.2.1⟩ hs2.2.2 hr T hT
theorem sameB_refl (xs : List Int) : sameB xs xs = true := by unfold sameB; simp
theorem L5.sb {T : ChT} {av al au am : Option Addr} {vn vc ln lc un uc mn mc : Nat} (h : L5 w0 w p d q p2 r most T OO O2 (.slice av vn vc) (.slice al ln lc) (.slice au un uc) (.slice am mn mc)) :
    Calls Tryz.prog 13 #[.slice av vn vc, .slice au un uc] w fun e w' => e = .returned (.bool true) ∧ Below w.heap.size w w' := by
  obtain ⟨a, c, e, h1, h2, h3, h4, -⟩ := h.hv.shape
  cases e
  obtain ⟨a', c', e, g1, g2, g3, g4, -⟩ := h.hu.shape
  cases e
  have := sameb_any av au _ _ vc uc T.v T.v w rfl rfl (by unfold maxLen at h2; omega) (by unfold maxLen at h2; omega) h4 g4
  rw [sameB_refl] at this
  exact this
theorem L5.sw {T : ChT} {av al au am : Option Addr} {vn vc ln lc un uc mn mc : Nat} (h : L5 w0 w p d q p2 r most T OO O2 (.slice av vn vc) (.slice al ln lc) (.slice au un uc) (.slice am mn mc)) (hT : T.ps.length ≤ 100000) :
    Calls Tryz.prog 14 #[.slice al ln lc, .slice am mn mc] w fun e w' => e = .returned (.bool true) ∧ Below w.heap.size w w' := by
  obtain ⟨a, c, e, h1, h2, h3, -⟩ := h.hl.shape
  cases e
  obtain ⟨a', c', e, g1, g2, g3, -⟩ := h.hm.shape
  cases e
  refine (samew_eq w al am _ lc mc T.ps rfl (by omega) h3 g3).mono ?_
  rintro e w' ⟨rfl, hs⟩
  exact ⟨rfl, hs.below⟩
theorem L5.cn {T : ChT} {v l u m : Value} (h : L5 w0 w p d q p2 r most T OO O2 v l u m) : w.cell? ⟨r, 5, none⟩ = some (.int .i64 T.S.n1) ∧ w.cell? ⟨r, 6, none⟩ = some (.int .i64 T.S.n2) ∧ w.cell? ⟨r, 7, none⟩ = some (.int .i64 T.S.n3) := by
  obtain ⟨O2', v', H, ⟨vl, Ls, vc, Cs, f, h1, _⟩, h2, h3, _, _⟩ := h.l4.r
  exact ⟨h1.c 5 _ rfl, h1.c 6 _ rfl, h1.c 7 _ rfl⟩
end Go.Proofs.YtlmofgfkclfgeaaGreat
/- Encode refuses. -/
namespace Go.Proofs.YtlmofgfkclfgeaaGreat
open Go.RowKit Go.Shelf Go.Maps
attribute [local go_sem] Oper.semAt_some wide_fn
set_option linter.unusedVariables false
variable {w w' : World}
set_option maxHeartbeats 6400000 in
set_option maxRecDepth 1000000 in
theorem encode_no (w : World) (a a' : Option Addr) (n c m c' : Nat) (hn : n ≤ 9223372036854775807) (ys : List Nat) (hl' : ys.length = m) (hm : m ≤ 1000000) (hr' : Rw w a' ys) (hz' : W32 ys) (hbad : m = 0 ∨ m ≠ need n ∨ ys.all okp = false) :
    Calls Tryz.prog 17 #[.slice a n c, .slice a' m c'] w fun e w' => e = .returned (.tuple #[.slice none 0 0, .int .u16 120]) ∧ Below w.heap.size w w' := by
  obtain ⟨p, hp⟩ : ∃ p, p = need n := ⟨_, rfl⟩
  have hp9 := need_le n
  rw [← hp] at hbad hp9
  have HN : Hid (∀ W, Calls Tryz.prog 18 #[.int .i64 (n : Int)] W fun e w' => e = .returned (.int .i64 (p : Int)) ∧ w' = W) := fun W => by rw [hp]; exact need_any W n hn
  have HCn : Hid (∀ W, Below w.heap.size w W → Calls Tryz.prog 50 #[.slice a' m c', .func (.func 51) #[] #[]] W fun e w' => e = .returned (.bool (!ys.all okp)) ∧ w' = W) := fun W hW =>
    contains_any W a' m c' ys hl' (by omega) (hr'.below hW) hz'
  have HB1 : Hid (∀ k, Below w.heap.size w ((w.alloc (.cells #[.slice a' m c'] 39)).drewN k)) := fun k => (below_alloc w _).trans (((Same.refl _).drewN k).below.mono (by simp))
  clear hl' hr' hz' hp
  refine (callsIn_wide (n := 9)).1 ?_
  refine callsIn_of_wp_marks Tryz.func17 rfl trivial ?_ rfl
  simp only [Tryz.ntmps17, List.size_toArray, List.length_cons, List.length_nil, Nat.reduceAdd, Nat.reduceSub, Array.replicate_succ, Array.replicate_zero, List.push_toArray, List.append_toArray, List.nil_append, List.cons_append]
  by_cases h0 : m = 0
  · have hq0 : ((m : Int) == 0) = true := by rw [beq_iff_eq]; omega
    clear hbad
    have H0 := hide h0
    clear h0
    gi_wp2
    gi_big_quiet_th (first | (gi_at_call 18; refine CallsIn.quiet_of_same (callsIn_wide.2 (HN.out _))) | (gi_at_call 50; refine CallsIn.quiet_of_same (callsIn_wide.2 (HCn.out _ (HB1.out _)))))
    gi_wp2
    refine ⟨.tuple #[.slice none 0 0, .int .u16 120], ?_, rfl, HB1.out nq⟩
    simp [results, Tryz.results17, go_sem]
  · have hq0 : ((m : Int) == 0) = false := by rw [beq_eq_false_iff_ne]; omega
    by_cases h1 : m = p
    · have hq1 : ((m : Int) != (p : Int)) = false := by rw [bne_eq_false_iff_eq]; omega
      have hal : ys.all okp = false := by rcases hbad with e | e | e; exact absurd e h0; exact absurd h1 e; exact e
      rw [hal] at HCn
      clear hbad hal h0 
      have H1 := hide h1
      clear h1
      gi_wp2
      gi_big_quiet_th (first | (gi_at_call 18; refine CallsIn.quiet_of_same (callsIn_wide.2 (HN.out _))) | (gi_at_call 50; refine CallsIn.quiet_of_same (callsIn_wide.2 (HCn.out _ (HB1.out _)))))
      gi_wp2
      refine ⟨.tuple #[.slice none 0 0, .int .u16 120], ?_, rfl, HB1.out nq⟩
      simp [results, Tryz.results17, go_sem]
    · have hq1 : ((m : Int) != (p : Int)) = true := by rw [bne_iff_ne]; omega
      clear hbad h0 h1
      gi_wp2
      gi_big_quiet_th (first | (gi_at_call 18; refine CallsIn.quiet_of_same (callsIn_wide.2 (HN.out _))) | (gi_at_call 50; refine CallsIn.quiet_of_same (callsIn_wide.2 (HCn.out _ (HB1.out _)))))
      gi_wp2
      refine ⟨.tuple #[.slice none 0 0, .int .u16 120], ?_, rfl, HB1.out nq⟩
      simp [results, Tryz.results17, go_sem]
end Go.Proofs.YtlmofgfkclfgeaaGreat
