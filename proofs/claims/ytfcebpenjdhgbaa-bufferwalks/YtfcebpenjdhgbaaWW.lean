/- BufferWalks: the walk. -/
import Derived.Test.YtfcebpenjdhgbaaSP
import Derived.Test.YtfcebpenjdhgbaaPO
import Derived.Test.YtfcebpenjdhgbaaWM
import Derived.Test.YtfcebpenjdhgbaaPJ
import Derived.Test.YtfcebpenjdhgbaaRD
namespace Go.Proofs.Ytfcebpenjdhgbaa
open Go.RowKit Go.Maps
set_option linter.unusedVariables false

theorem Bl.make {w5 W : World} {q n c wr : Nat} {a : Option Addr} {us : List En} (h : Prs w5 a n c us) (hb : Below w5.heap.size w5 W) (hq : w5.heap.size ≤ q) (hc : W.heap[q]? = some (.cells #[.slice a n c, .int .i64 (wr : Int)] 48 (0, 0))) : Bl W q a n c us wr := ⟨hc, w5, h, hq, hb⟩
/-- a pair in a box of its own is a list of one. -/
theorem prs_box {W W0 : World} {y : En} (h : y.Ok W0) (hb : Below W0.heap.size W0 W) : Prs (W.alloc (.cells #[.slice y.ka y.e.key.length y.kc, .slice y.va y.e.val.length y.vc] 40)) (some ⟨W.heap.size, 0, none⟩) 1 1 [y] := by
  have hb' := hb.trans ((below_alloc W (.cells #[.slice y.ka y.e.key.length y.kc, .slice y.va y.e.val.length y.vc] 40)).mono hb.size)
  refine ⟨rfl, (by intro e; cases e), Nat.le_refl _, by omega, .inr ⟨W.heap.size, 0, rfl, by simp, fun k x hx => ?_⟩, fun z hz => ?_⟩
  · have hk : k = 0 := by
      have := (List.getElem?_eq_some_iff.1 hx).1
      simp at this; omega
    subst hk
    simp at hx
    subst hx
    have h0 := pbox_news W y 0 _ rfl
    have h1 := pbox_news W y 1 _ rfl
    rw [Addr.add_lit] at h0 h1
    exact ⟨h0, h1⟩
  · simp at hz; subst hz
    exact h.below hb'
theorem zero_ok (w : World) : (⟨zeE, none, 0, none, 0⟩ : En).Ok w := ⟨inn_nil w, inn_nil w⟩
/-- what a call of the document's buffer leaves of a world of before. -/
theorem rb_step {w6 wr w2 : World} {rp : Nat} {v : Value} (hm : Mv (fun k => k = rp) w6 wr) (ho : ∀ k, v.ownBlock = some k → w6.heap.size ≤ k) (hm2 : Mv (fun k => k = rp ∨ v.ownBlock = some k) wr w2) : Mv (fun k => k = rp) w6 w2 :=
  ⟨hm2.os.trans hm.os, hm2.tape.trans hm.tape, hm2.output.trans hm.output, Nat.le_trans hm.size hm2.size, fun k hk hn => (hm2.block k (Nat.lt_of_lt_of_le hk hm.size) (fun h => h.elim hn fun e => by have := ho k e; omega)).trans (hm.block k hk hn)⟩
theorem Cl.mvk {C rp : Nat} {w W : World} {v : Value} {ys : List En} (h : Cl C w v ys) (hr : rp < C) (hm : Mv (fun k => k = rp) w W) : Cl C W v ys :=
  h.of_block (fun k hk => hm.block k (h.block hk).2.1 (by have := (h.block hk).1; omega)) (fun y hy k hk => hm.block k ((h.each y hy).lt hk) (by have := (h.each y hy).ge hk; omega))
theorem foldA_del (xs : List Ac) : ∀ e ∈ foldA xs, e.del = true → e.val = [] := by
  have gen : ∀ (l : List Ac) (acc : List Ee), (∀ e ∈ acc, e.del = true → e.val = []) → ∀ e ∈ l.foldl stepA acc, e.del = true → e.val = [] := by
    intro l
    induction l with
    | nil => intro acc h; exact h
    | cons x t ih =>
      intro acc h
      refine ih _ fun e he => ?_
      unfold stepA at he
      split at he
      · rcases put_mem he with rfl | he
        · intro h; cases h
        · exact h e he
      · split at he
        · rcases put_mem he with rfl | he
          · intro _; rfl
          · exact h e he
        · exact h e he
  exact gen xs [] (by simp)
/-- one of the pairs of a row, as a row. -/
theorem Prs.one {w : World} {b off n c i : Nat} {vs : List En} {x : En} (h : Prs w (some ⟨b, off, none⟩) n c vs) (hx : vs[i]? = some x) : Prs w (some ⟨b, off + i * 2, none⟩) 1 (c - i) [x] := by
  have hi := (List.getElem?_eq_some_iff.1 hx).1
  have hl := h.len
  have hc := h.cap
  have hm := h.max
  refine ⟨rfl, (by intro e; cases e), by omega, by omega, ?_, fun z hz => ?_⟩
  · rcases h.row with h0 | ⟨b', off', e, hlt, hc'⟩
    · rw [h0] at hx; simp at hx
    · cases e
      refine .inr ⟨b, off + i * 2, rfl, hlt, fun k y hy => ?_⟩
      have hk : k = 0 := by have := (List.getElem?_eq_some_iff.1 hy).1; simp at this; omega
      subst hk
      simp at hy
      subst hy
      simpa using hc' i x hx
  · simp at hz; subst hz
    exact h.each _ (List.mem_of_getElem? hx)
theorem mv_undrew {O : Nat → Prop} {w w' : World} (h : Mv O w.drew w') : Mv O w w' := ⟨h.os, h.tape, h.output, h.size, h.block⟩
theorem rb_fin {w6 wr w2 : World} {rp k : Nat} {es : List Ee} {v v2 : Value} {ys : List En} {y : En} {e : Ee} (h : Rb wr rp rp v ys) (her : ers ys = es.take k) (hm : Mv (fun k => k = rp) w6 wr) (ho : ∀ k, v.ownBlock = some k → w6.heap.size ≤ k) (hx : es[k]? = some e) (hye : y.e = e) (hr2 : Rb w2 rp rp v2 (ys ++ [y])) (hm2 : Mv (fun k => k = rp ∨ v.ownBlock = some k) wr w2) (hn : ∀ k, v2.ownBlock = some k → v.ownBlock = some k ∨ wr.heap.size ≤ k) :
    Rb w2 rp rp v2 (ys ++ [y]) ∧ ers (ys ++ [y]) = es.take (k + 1) ∧ Mv (fun k => k = rp) w6 w2 ∧ ∀ k, v2.ownBlock = some k → w6.heap.size ≤ k := by
  refine ⟨hr2, ?_, rb_step hm ho hm2, fun j hj => ?_⟩
  · rw [ers_app, her, take_at hx]; simp [ers, hye]
  · rcases hn j hj with h1 | h1
    · exact ho j h1
    · have := hm.size; omega
theorem kp_len (e : Ee) : (kp e).length ≤ 1 := by unfold kp; split <;> simp
theorem mg_len (es us : List Ee) : (mg es us).length ≤ es.length + us.length := by
  fun_induction mg es us with
  | case1 us => simp
  | case2 e es ih => have := kp_len e; simp only [List.length_append, List.length_cons, List.length_nil] at *; omega
  | case3 e es u us hlt ih => simp only [List.length_cons] at *; omega
  | case4 e es u us hlt ih =>
    have := kp_len e
    simp only [List.length_append, List.length_cons] at *
    have h2 : (if h : u.key = e.key then us else u :: us).length ≤ us.length + 1 := by split <;> simp
    simp only [dite_eq_ite] at *
    omega
/-- what a step answers. -/
def StepOut (W : World) (o : Option Ee) (r : Ending) (w' : World) : Prop := ∃ y : En, r = .returned (.tuple #[.agg #[.slice y.ka y.e.key.length y.kc, .slice y.va y.e.val.length y.vc], .bool o.isSome, .int .u16 0]) ∧ y.e.key = (o.getD zeE).key ∧ y.e.val = (o.getD zeE).val ∧ y.Ok w' ∧ Below W.heap.size W w'
theorem step_of_first {W : World} {q n c : Nat} {a : Option Addr} {us : List En} {R : Option Ee × Nat × Nat} {o : Option Ee} {r : Ending} {w' : World} {x : Obj} (h1 : R.1 = o) (h2 : R.2.1 = 0) (hq : q = W.heap.size) (h : FirstOut (W.alloc x) q a n c us R r w') : StepOut W o r w' := by
  obtain ⟨y, e, k, v, ho, hm, -⟩ := h
  subst hq
  rw [h1] at e k v
  rw [h2] at e
  exact ⟨y, e, k, v, ho.ok, mv_low hm (below_alloc W x) (Nat.le_refl _)⟩
set_option maxHeartbeats 12800000 in
set_option maxRecDepth 1000000 in
theorem walks_walk (a : Option Addr) (n c : Nat) (us : List En) (b : Option Addr) (m d : Nat) (xs : List Ac) (w : World) (hU : Prs w a n c us) (hL : Acs w b m d xs) (su : Szp us) (sl : Sza xs) :
    Calls Try.prog 3 #[.slice a n c, .slice b m d] w fun e w' => e = .returned (.bool true) ∧ Below w.heap.size w w' := by
  have HU := hide hU
  have HL := hide hL
  have SU := hide su
  have HMu := hide (much_any b m d xs w hL sl)
  clear hU hL su sl
  go_enter Try.func3, Try.ntmps3
  go_wp2_with fail
  refine HMu.out.mono ?_
  rintro e w1 ⟨hmu, hb1⟩
  have HB1 := hide hb1
  clear hb1 HMu
  rcases hmu with rfl | ⟨rfl, hn, hsm⟩
  · go_wp2
    go_ret
    exact ⟨rfl, HB1.out⟩
  by_cases h200 : 200 < n
  · have d1 : (200 : Int) < (n : Int) := by omega
    go_wp2
    go_ret
    exact ⟨rfl, HB1.out⟩
  have d1 : ¬ (200 : Int) < (n : Int) := by omega
  have hxl := HL.out.len
  have hul := HU.out.len
  go_wp2_with fail
  refine (filled_any b m d xs w1 (HL.out.below HB1.out) (by omega) hsm).mono ?_
  rintro e w2 ⟨rfl, hs, O, hst, hb2⟩
  have hsmall := foldA_small hsm
  have hfl := foldA_len xs
  have hsl := sayN_le xs
  obtain ⟨es, hes⟩ : ∃ es, es = foldA xs := ⟨_, rfl⟩
  rw [← hes] at hst hfl hsmall
  have hel : es.length ≤ 300 := by omega
  have HB2 := hide (HB1.out.trans (hb2.mono HB1.out.size))
  have HST := hide hst
  have HES := hide (fun e (he : e ∈ es) => (⟨Nat.le_trans (hsmall e he).1 (by omega), Nat.le_trans (hsmall e he).2 (by omega)⟩ : e.key.length ≤ 140737488351232 ∧ e.val.length ≤ 140737488351232))
  obtain ⟨p, hp⟩ : ∃ p, p = w1.heap.size := ⟨_, rfl⟩
  rw [← hp] at HST ⊢
  have HDl : Hid (∀ e ∈ es, e.del = true → e.val = []) := by rw [hes]; exact foldA_del xs
  clear hb2 hst hsmall hsm hes hfl hsl hp
  go_wp2_with fail
  refine (known_any w2).mono ?_
  rintro e w3 ⟨rfl, hb3⟩
  have HB3 := hide (HB2.out.trans (hb3.mono HB2.out.size))
  have HST3 := hide (HST.out.below hb3)
  clear hb3
  go_wp2_with fail
  refine (rising_any (HU.out.below HB3.out) (by omega) SU.out.2).mono ?_
  rintro e w4 ⟨ra, rn, rc, rs, rfl, hprs, hers, hrn, hb4⟩
  have HB4 := hide (HB3.out.trans (hb4.mono HB3.out.size))
  have HST4 := hide (HST3.out.below hb4)
  have hrn2 : rn ≤ 200 := by omega
  have HRS : Hid (∀ x ∈ rs, x.e.key.length ≤ 140737488351232 ∧ x.e.val.length ≤ 140737488351232) := fun x hx => by
    have h1 : x.e ∈ ers rs := List.mem_map.2 ⟨x, hx, rfl⟩
    rw [hers] at h1
    obtain ⟨_, u, hu, he⟩ := risE_mem h1
    obtain ⟨z, hz, rfl⟩ := List.mem_map.1 hu
    have := SU.out.2 z hz
    rw [he]; exact this
  have HP4 := hide hprs
  have HErs := hide hers
  clear hb4 hprs hers hrn
  obtain ⟨w5, hw5⟩ : ∃ w5, w5 = w4.alloc (.cells #[.slice none 0 0] 32) := ⟨_, rfl⟩
  have hb5 : Below w4.heap.size w4 w5 := by rw [hw5]; exact below_alloc _ _
  have hr5 : w5.heap[w4.heap.size]? = some (.cells #[.slice none 0 0] 32 (0, 0)) := by rw [hw5]; exact heap_alloc_new w4 _
  have hs5 : w5.heap.size = w4.heap.size + 1 := by rw [hw5]; simp
  go_wp2_with fail
  rw [← hw5]
  clear hw5
  refine (changes_st (HST4.out.below hb5) (by omega) HES.out).mono ?_
  rintro e w6 ⟨cs, rfl, hey, hcl, hb6⟩
  obtain ⟨sv, uv, bs, vs0, hh, hbh, hersb, -, -, -, hris, -⟩ := HST4.out
  have HBf := hide hbh.bf
  have hrisb : Ris (ers bs) := by rw [hersb]; exact hris
  have hbl : bs.length = es.length := by have := congrArg List.length hersb; rwa [ers_len] at this
  have HW : Hid (∀ x ∈ bs, x.e.key.length ≤ 140737488351232 ∧ x.e.val.length ≤ 140737488351232) := fun x hx => HES.out x.e (by rw [← hersb]; exact List.mem_map.2 ⟨x, hx, rfl⟩)
  have HRis := hide hris
  have HRisb := hide hrisb
  have HErb := hide hersb
  have HEy := hide hey
  have HCl := hide hcl
  obtain ⟨rp, hrp⟩ : ∃ rp, rp = w4.heap.size := ⟨_, rfl⟩
  have HRp := hide hrp
  have HRb0 : Hid (Rb w6 rp rp (.slice none 0 0) []) := by
    refine ⟨?_, Nat.le_refl _, ⟨rfl, .inl ⟨rfl, rfl⟩⟩, by simp, by intro i j yi yj k hi; simp at hi⟩
    rw [hrp]; exact (hb6.block _ (lt_of_block hr5)).trans hr5
  have HB46 := hide (hb5.trans (hb6.mono hb5.size))
  have hq5 : w5.heap.size = rp + 1 := by omega
  rw [hq5] at HCl ⊢
  rw [← hrp]
  have hcsl : cs.length = es.length := by have := congrArg List.length HEy.out; rwa [ers_len] at this
  clear hb5 hr5 hs5 hey hcl hb6 hbh hris hrisb hersb hrp hq5
  have HSt0 : Hid (Mv (fun k => k = rp) w6 w6) := Mv.refl _ _
  go_wp2
  go_loopw [9] (fun i_ wr => ∃ (k : Nat) (v : Value) (ys : List En), k ≤ es.length ∧ i_ = .int .i64 (k : Int) ∧ Rb wr rp rp v ys ∧ ers ys = es.take k ∧ Mv (fun k => k = rp) w6 wr ∧ ∀ k, v.ownBlock = some k → w6.heap.size ≤ k) (fun i_ _ => es.length - (intOf i_).toNat)
  case atStart => exact ⟨0, _, [], Nat.zero_le _, rfl, HRb0.out, by simp [ers], HSt0.out, by intro k hk; simp [Value.ownBlock] at hk⟩
  case round =>
    obtain ⟨k, v, ys, hk, rfl, hrb, her, hmv, hov⟩ := hrel
    have hyl : ys.length = k := by
      have := congrArg List.length her
      rw [ers_len, List.length_take] at this
      omega
    have HRb := hide hrb
    have HEr := hide her
    have HMv := hide hmv
    have HOv := hide hov
    have hBs : rp ≤ wr.heap.size := Nat.le_of_lt (lt_of_block hrb.blk)
    have HClr := hide (HCl.out.mvk (by omega) hmv)
    clear hrb her hmv hov
    by_cases hlt : k < es.length
    · have f1 : (k : Int) < (es.length : Int) := by omega
      have f2 : (0 : Int) ≤ (k : Int) := by omega
      obtain ⟨a4, c4, e4, hE4⟩ := HClr.out.ens
      rw [hcsl] at e4 hE4
      cases e4
      obtain ⟨x, hx, hxk⟩ := hE4.at hlt
      obtain ⟨b4, o4, e4, hb4, z0, z1, z2⟩ := hE4.cells hx
      cases e4
      simp only [Nat.zero_add] at z0 z1 z2
      have hxe : es[k]? = some x.e := by have := ers_at hx; rwa [HEy.out] at this
      have hbig := HES.out x.e (List.mem_of_getElem? hxe)
      have HXe := hide hxe
      have HDx := hide (HDl.out x.e (List.mem_of_getElem? hxe))
      have hdr : Below wr.heap.size wr wr.drew := (Below.refl _ _).drew
      clear hE4 hx hxe
      by_cases hdel : x.e.del = true
      · rw [hdel] at z2
        have HP := hide (rdelete_any HRb.out hBs x.ka x.e.key.length x.kc x.e.key hxk.key hbig.1 (by omega))
        clear hxk hbig hdr
        go_wp2_with (go_at_call 10; refine HP.out.mono ?_; rintro e w2 ⟨rfl, v2, y, hye, hrb2, hmv2, hnw2⟩; have HFin := hide (rb_fin HRb.out HEr.out HMv.out HOv.out HXe.out (y := y) (by rw [hye, ← HDx.out hdel, ← hdel]) hrb2 hmv2 hnw2); clear hye hrb2 hmv2 hnw2)
        refine ⟨⟨k + 1, v2, ys ++ [y], by omega, by go_num, HFin.out⟩, ?_⟩
        simp [intOf]; omega
      · have hdel : x.e.del = false := by simpa using hdel
        rw [hdel] at z2
        have HP := hide (rput_any (HRb.out.below hdr) hBs x.ka x.va x.e.key.length x.kc x.e.val.length x.vc x.e.key x.e.val (hxk.key.below hdr) (hxk.val.below hdr) hbig.1 hbig.2 (by omega))
        have HZ : Hid (∀ W, Mv (fun k => k = rp ∨ v.ownBlock = some k) wr W → W.cell? ⟨rp + 1, k * 3, none⟩ = some (.slice x.ka x.e.key.length x.kc) ∧ W.cell? ⟨rp + 1, k * 3 + 1, none⟩ = some (.slice x.va x.e.val.length x.vc)) := fun W hW => by
          have hne : ¬ (rp + 1 = rp ∨ v.ownBlock = some (rp + 1)) := by
            rintro (h | h)
            · omega
            · have h1 := HOv.out _ h
              have h2 : rp + 1 < w6.heap.size := (HCl.out.block (k := rp + 1) rfl).2.1
              omega
          have hb := hW.block (rp + 1) hb4 hne
          exact ⟨(World.cell?_of_block (a := ⟨rp + 1, k * 3, none⟩) hb).trans z0, (World.cell?_of_block (a := ⟨rp + 1, k * 3 + 1, none⟩) hb).trans z1⟩
        clear hxk hbig hdr
        go_wp2
        go_region_held3 (fun W => W.cell? ⟨rp + 1, k * 3, none⟩ = some (.slice x.ka x.e.key.length x.kc) ∧ W.cell? ⟨rp + 1, k * 3 + 1, none⟩ = some (.slice x.va x.e.val.length x.vc)) ((refine ⟨?_, ?_⟩ <;> assumption)) ((first | (go_at_call 11; refine HP.out.mono ?_; rintro e w2 ⟨rfl, v2, y, hye, hrb2, hmv2', hnw2⟩; have hmv2 := mv_undrew hmv2'; have HFin := hide (rb_fin HRb.out HEr.out HMv.out HOv.out HXe.out (y := y) (by rw [hye, ← hdel]) hrb2 hmv2 hnw2); clear hmv2'; clear z0 z1; obtain ⟨z0, z1⟩ := HZ.out w2 hmv2; clear hye hrb2 hmv2 hnw2)))
        go_wp2
        refine ⟨⟨k + 1, v2, ys ++ [y], by omega, by go_num, HFin.out⟩, ?_⟩
        simp [intOf]; omega
    · obtain rfl : k = es.length := by omega
      have f1 : ¬ (es.length : Int) < (es.length : Int) := by omega
      obtain ⟨ya, yc, rfl, hE⟩ := HRb.out.cl.ens
      rw [hyl] at HRb hE
      have hb4r : Below w4.heap.size w4 wr := mv_low HMv.out HB46.out (by have := HRp.out; omega)
      have HSe := hide (rseen_any HRb.out.cell hE (by omega) (HP4.out.below hb4r) (by omega))
      have HB4r := hide hb4r
      have e1 : (ers ys).foldl put [] = es := by
        rw [HEr.out, List.take_of_length_le (Nat.le_refl _)]
        exact fold_put HRis.out
      have HE1 := hide e1
      clear hE hb4r e1 HMv HOv HClr
      go_wp2_with fail
      refine HSe.out.mono ?_
      rintro e w8 ⟨W0, wv, q, vs, rfl, hb0, hrpp, hvs, hsub⟩
      obtain ⟨wa, wc, rfl, hwp⟩ := hrpp.prs
      rw [HE1.out] at hvs
      have hru : Ris (ers rs) := by rw [HErs.out]; exact risE_ris _
      have hrl : (ers rs).length = rn := by rw [ers_len]; exact HP4.out.len
      have HVs := hide hvs
      have HVr : Hid (Ris (ers vs)) := by rw [hvs]; exact mg_ris HRis.out hru
      have hvl : vs.length = q := hwp.len
      have hq5 : q ≤ 500 := by
        have h1 := mg_len es (ers rs)
        rw [← hvs, ers_len, hrl] at h1
        omega
      have HBg : Hid (∀ x ∈ ers vs, x.key.length ≤ 140737488351232 ∧ x.val.length ≤ 140737488351232) := fun x hx => by
        rw [hvs] at hx
        rcases mg_sub hx with h | h
        · exact HES.out x h.1
        · obtain ⟨z, hz, rfl⟩ := List.mem_map.1 h
          exact HRS.out z hz
      have hb8 : Below w4.heap.size w4 w8 := HB4r.out.trans ((hb0.trans (hrpp.on.mono hb0.size)).mono HB4r.out.size)
      have HB8 := hide hb8
      have HWp := hide hwp
      have HNx : Hid (∀ (W : World) (fa : Option Addr) (fn fc : Nat) (frm : List Int) (inn : Bool) (o : Option Ee), Below w8.heap.size w8 W → Inn W fa fn fc frm → fn ≤ 140737488351232 → nxU (ers vs) frm inn = o → Calls Try.prog 13 #[.pointer (some ⟨p, 0, none⟩), .func (.func 14) #[.pointer (some ⟨W.heap.size, 0, none⟩)] #[], .slice fa fn fc, .bool inn] (W.alloc (.cells #[.slice ra rn rc, .int .i64 1000000] 48)) (StepOut W o)) := fun W fa fn fc frm inn o hW hin hfn ho => by
        have hbW : Below w4.heap.size w4 W := HB8.out.trans (hW.mono HB8.out.size)
        have hbA : Below w4.heap.size w4 (W.alloc (.cells #[.slice ra rn rc, .int .i64 1000000] 48)) := hbW.trans ((below_alloc W _).mono hbW.size)
        obtain ⟨h1, h2⟩ := seenU_is HRis.out hru (k := 1000000) (by omega) frm inn
        rw [← HVs.out, ho] at h1
        refine (seenU_any (HBf.out.below hbA) HRisb.out (Bl.make (wr := 1000000) HP4.out hbA hbW.size (heap_alloc_new W _)) (by omega) fa fn fc frm inn (hin.below (below_alloc W _)) hfn (by omega) (by omega) HW.out HRS.out (firstU es (ers rs) 1000000 frm inn) (by rw [HErb.out])).mono ?_
        intro r w' h
        exact step_of_first h1 h2 rfl h
      have HPv : Hid (∀ (W : World) (fa : Option Addr) (fn fc : Nat) (frm : List Int) (inn : Bool) (o : Option Ee), Below w8.heap.size w8 W → Inn W fa fn fc frm → fn ≤ 140737488351232 → nxD (ers vs) frm inn = o → Calls Try.prog 16 #[.pointer (some ⟨p, 0, none⟩), .func (.func 17) #[.pointer (some ⟨W.heap.size, 0, none⟩)] #[], .slice fa fn fc, .bool inn] (W.alloc (.cells #[.slice ra rn rc, .int .i64 1000000] 48)) (StepOut W o)) := fun W fa fn fc frm inn o hW hin hfn ho => by
        have hbW : Below w4.heap.size w4 W := HB8.out.trans (hW.mono HB8.out.size)
        have hbA : Below w4.heap.size w4 (W.alloc (.cells #[.slice ra rn rc, .int .i64 1000000] 48)) := hbW.trans ((below_alloc W _).mono hbW.size)
        obtain ⟨h1, h2⟩ := seenD_is HRis.out hru (k := 1000000) (by omega) frm inn
        rw [← HVs.out, ho] at h1
        refine (seenD_any (HBf.out.below hbA) HRisb.out (Bl.make (wr := 1000000) HP4.out hbA hbW.size (heap_alloc_new W _)) (by omega) fa fn fc frm inn (hin.below (below_alloc W _)) hfn (by omega) (by omega) HW.out HRS.out (firstD es (ers rs) 1000000 frm inn) (by rw [HErb.out])).mono ?_
        intro r w' h
        exact step_of_first h1 h2 rfl h
      have hnx0 : nxU (ers vs) [] true = (ers vs)[0]? := nxU_start _
      have HNx0 := hide hnx0
      have HBw : Hid (Below w.heap.size w w8) := HB4.out.trans (hb8.mono HB4.out.size)
      clear hb0 hrpp hvs hsub hwp hb8 hru hnx0 HRb HSe HEr HB4r HE1 HBf HW HRS HES HDl HRis HRisb HErb HErs HP4 HCl HEy HRb0 HB46 HSt0 HST HST3 HST4 HB2 HB3 HB4 HB1 HU HL SU
      go_wp2
      go_loopw [11, 12, 13] (fun f_ n_ i_ wr => ∃ (i : Nat) (fa : Option Addr) (fn fc : Nat) (frm : List Int) (inn : Bool), i ≤ q + 1 ∧ i_ = .int .i64 (i : Int) ∧ f_ = .slice fa fn fc ∧ n_ = .bool inn ∧ Below w8.heap.size w8 wr ∧ Inn wr fa fn fc frm ∧ fn ≤ 140737488351232 ∧ (i ≤ q → nxU (ers vs) frm inn = (ers vs)[i]?)) (fun _ _ i_ _ => q + 1 - (intOf i_).toNat)
      case atStart => exact ⟨0, none, 0, 0, [], true, by omega, rfl, rfl, rfl, Below.refl _ _, inn_nil _, by omega, fun _ => HNx0.out⟩
      case round =>
        obtain ⟨i, fa, fn, fc, frm, inn, hi, rfl, rfl, rfl, hbw, hin, hfn, hnx⟩ := hrel
        have f2 : (0 : Int) ≤ (i : Int) := by omega
        by_cases hiq : i ≤ q
        · have f1 : (i : Int) ≤ (q : Int) := by omega
          have HCall := hide (HNx.out wr fa fn fc frm inn _ hbw hin hfn (hnx hiq))
          have HBw1 := hide hbw
          clear hbw hin hnx
          go_wp2_with fail
          refine HCall.out.mono ?_
          rintro e w9 ⟨y, rfl, hyk, hyv, hyo, hb9⟩
          have HYk := hide hyk
          have HYv := hide hyv
          have HYo := hide hyo
          have HB9 := hide (HBw1.out.trans (hb9.mono HBw1.out.size))
          obtain ⟨g0, g1, -⟩ := cells_two (heap_alloc_new w9 (.cells #[.slice y.ka y.e.key.length y.kc, .slice y.va y.e.val.length y.vc] 40))
          clear hyk hyv hyo hb9
          have t2 : (((0 : Int) != 0) : Bool) = false := by simp
          by_cases hlt : i < q
          · have f3 : (i : Int) < (q : Int) := by omega
            obtain ⟨x, hx⟩ : ∃ x, vs[i]? = some x := ⟨_, List.getElem?_eq_getElem (by omega)⟩
            have hxe := ers_at hx
            rw [hxe] at HYk HYv ⊢
            have HX := hide hx
            have HXe := hide hxe
            obtain ⟨b2, o2, hwa⟩ : ∃ b2 o2, wa = some ⟨b2, o2, none⟩ := by
              obtain ⟨_, b2, o2, _, e_, _⟩ := HWp.out.at hlt
              exact ⟨b2, o2, e_⟩
            subst hwa
            have hcap := HWp.out.cap
            have HSm : Hid (∀ W, Below w9.heap.size w9 W → Calls Try.prog 15 #[.slice (some ⟨W.heap.size, 0, none⟩) 1 1, .slice (some ⟨b2, o2 + i * 2, none⟩) 1 (wc - i)] (W.alloc (.cells #[.slice y.ka y.e.key.length y.kc, .slice y.va y.e.val.length y.vc] 40)) fun e w' => e = .returned (.bool true) ∧ Below (W.alloc (.cells #[.slice y.ka y.e.key.length y.kc, .slice y.va y.e.val.length y.vc] 40)).heap.size (W.alloc (.cells #[.slice y.ka y.e.key.length y.kc, .slice y.va y.e.val.length y.vc] 40)) w') := fun W hW =>
              samep_yes _ _ 1 1 (wc - i) [y] [x] _ (prs_box HYo.out hW) (((HWp.out.below (HB9.out.trans (hW.mono HB9.out.size))).one HX.out).below (below_alloc _ _)) (by
                have h1 : y.e.key = x.e.key := HYk.out
                have h2 : y.e.val = x.e.val := HYv.out
                simp [ers, cle, h1, h2]) (by omega)
            have f5 : IntKind.i64.wrap ((i : Int) + 1) = (i : Int) + 1 := by rw [IntKind.wrap_i64]; omega
            have f6 : (i : Int) ≤ (i : Int) + 1 := by omega
            have f7 : (i : Int) + 1 ≤ (wc : Int) := by omega
            have f8 : ((i : Int) + 1).toNat = i + 1 := by omega
            have f9 : ¬ wc = i := by omega
            have f10 : i + 1 - i = 1 := by omega
            have f11 : (0 : Int) ≤ (i : Int) + 1 := by omega
            have f12 : ((true != true) : Bool) = false := rfl
            clear hx hxe
            go_wp2
            obtain ⟨wA, hwA⟩ : ∃ wA, wA = w9.alloc (.cells #[.slice y.ka y.e.key.length y.kc, .slice y.va y.e.val.length y.vc] 40) := ⟨_, rfl⟩
            have hbA : Below w9.heap.size w9 wA := by rw [hwA]; exact below_alloc _ _
            rw [← hwA] at g0 g1 ⊢
            clear hwA
            have HBA := hide hbA
            obtain ⟨P, hP⟩ : ∃ P, P = w9.heap.size := ⟨_, rfl⟩
            rw [← hP] at g0 g1 ⊢
            clear hP hbA
            have G0 := hide g0
            have G1 := hide g1
            have nn0 := World.new_ne wA _ g0
            go_region_held3 (fun W => W.cell? ⟨P, 0, none⟩ = some (.slice y.ka y.e.key.length y.kc) ∧ W.cell? ⟨P, 1, none⟩ = some (.slice y.va y.e.val.length y.vc)) (go_keep) ((first | (go_at_call 15; refine (HSm.out _ (HBA.out.drew)).mono ?_; intro r' w10 hh; obtain ⟨rfl, hb10⟩ := hh; have HB10 := hide ((below_alloc wA.drew (.cells #[.slice y.ka y.e.key.length y.kc, .slice y.va y.e.val.length y.vc] 40)).trans (hb10.mono (by simp))); clear g0 g1; have g0 := one_below1 (w := wA.drew) G0.out HB10.out; have g1 := one_below1 (w := wA.drew) G1.out HB10.out; clear hb10)))
            have hbz : Below w9.heap.size w9 w10 := HBA.out.drew.trans (HB10.out.mono HBA.out.drew.size)
            have HBz := hide hbz
            clear hbz
            go_wp2
            have hyx : y.e.key = x.e.key := HYk.out
            refine ⟨⟨i + 1, y.ka, y.e.key.length, y.kc, y.e.key, false, by omega, by go_num, rfl, rfl, HB9.out.trans (HBz.out.mono HB9.out.size), HYo.out.key.below HBz.out, ?_, fun h => ?_⟩, ?_⟩
            · rw [hyx]; exact (HBg.out x.e (List.mem_of_getElem? HXe.out)).1
            · rw [hyx]; exact nxU_next HVr.out HXe.out
            · simp [intOf] <;> omega
          · obtain rfl : i = q := by omega
            have f3 : ¬ (i : Int) < (i : Int) := by omega
            have hxe : (ers vs)[i]? = none := List.getElem?_eq_none (by rw [ers_len]; omega)
            rw [hxe] at HYk HYv ⊢
            go_wp2
            go_quiet (fail)
            have HBn := hide (below_drewN (below_alloc w9 (.cells #[.slice y.ka y.e.key.length y.kc, .slice y.va y.e.val.length y.vc] 40)) nq)
            have hyk0 : y.e.key = [] := HYk.out
            have HYl0 : Hid (y.e.key.length = 0) := by rw [Hid, hyk0]; rfl
            clear hyk0
            go_wp2
            refine ⟨⟨i + 1, y.ka, y.e.key.length, y.kc, y.e.key, false, by omega, by go_num, rfl, rfl, HB9.out.trans (HBn.out.mono HB9.out.size), HYo.out.key.below HBn.out, by have := HYl0.out; omega, fun h => by omega⟩, ?_⟩
            simp [intOf] <;> omega
        · obtain rfl : i = q + 1 := by omega
          have f1 : ¬ (((q + 1 : Nat) : Int) ≤ (q : Int)) := by omega
          go_wp2
          have hnd0 : nxD (ers vs) [] true = (ers vs).reverse[0]? := nxD_start _
          have HNd0 := hide hnd0
          have HBw2 := hide hbw
          clear hnd0 hbw hin hnx
          go_loopw [11, 12, 17] (fun f_ n_ i_ wr => ∃ (I : Int) (fa : Option Addr) (fn fc : Nat) (frm : List Int) (inn : Bool), i_ = .int .i64 I ∧ f_ = .slice fa fn fc ∧ n_ = .bool inn ∧ Below w8.heap.size w8 wr ∧ Inn wr fa fn fc frm ∧ fn ≤ 140737488351232 ∧ (I = -1 ∨ ∃ s t : Nat, s + t = q ∧ I = (t : Int) ∧ nxD (ers vs) frm inn = (ers vs).reverse[s]?)) (fun _ _ i_ _ => (intOf i_ + 1).toNat)
          case atStart => exact ⟨_, none, 0, 0, [], true, rfl, rfl, rfl, HBw2.out, inn_nil _, by omega, .inr ⟨0, q, by omega, rfl, HNd0.out⟩⟩
          case round =>
            obtain ⟨I, fa, fn, fc, frm, inn, rfl, rfl, rfl, hbw, hin, hfn, hnx⟩ := hrel
            rcases hnx with rfl | ⟨s, t, hst, rfl, hnx⟩
            · have f1 : ¬ (0 : Int) ≤ -1 := by omega
              have HBz := hide (HBw.out.trans (hbw.mono HBw.out.size))
              clear hbw hin
              go_wp2
              go_ret
              exact ⟨rfl, HBz.out⟩
            · have f1 : (0 : Int) ≤ (t : Int) := by omega
              have hrv : ∀ r1, (ers vs).length = q → r1 < q → (ers vs).reverse[r1]? = (ers vs)[q - 1 - r1]? := fun r1 hl hr => by rw [List.getElem?_reverse (by omega), hl]
              have hvq : (ers vs).length = q := by rw [ers_len]; exact hvl
              have HCall := hide (HPv.out wr fa fn fc frm inn _ hbw hin hfn hnx)
              have HBw1 := hide hbw
              clear hbw hin hnx
              go_wp2_with fail
              refine HCall.out.mono ?_
              rintro e w9 ⟨y, rfl, hyk, hyv, hyo, hb9⟩
              have HYk := hide hyk
              have HYv := hide hyv
              have HYo := hide hyo
              have HB9 := hide (HBw1.out.trans (hb9.mono HBw1.out.size))
              obtain ⟨g0, g1, -⟩ := cells_two (heap_alloc_new w9 (.cells #[.slice y.ka y.e.key.length y.kc, .slice y.va y.e.val.length y.vc] 40))
              clear hyk hyv hyo hb9
              have t2 : (((0 : Int) != 0) : Bool) = false := by simp
              cases t with
              | succ i =>
                have hlt : i < q := by omega
                obtain ⟨x, hx⟩ : ∃ x, vs[i]? = some x := ⟨_, List.getElem?_eq_getElem (by omega)⟩
                have hxe := ers_at hx
                have hse : (ers vs).reverse[s]? = some x.e := by
                  rw [hrv s hvq (by omega), show q - 1 - s = i by omega]; exact hxe
                have f3 : (0 : Int) < (i : Int) + 1 := by omega
                have f1' : (0 : Int) ≤ (i : Int) + 1 := by omega
                have f0 : (0 : Int) ≤ (i : Int) := by omega
                have fc1 : ((i + 1 : Nat) : Int) = (i : Int) + 1 := by omega
                have fw : IntKind.i64.wrap (i : Int) = (i : Int) := by rw [IntKind.wrap_i64] <;> omega
                have fw2 : IntKind.i64.wrap ((i : Int) + 1 - 1) = (i : Int) := by rw [IntKind.wrap_i64] <;> omega
                have hse' := hide hse
                rw [hse] at HYk HYv ⊢
                clear hrv hse
                have HX := hide hx
                have HXe := hide hxe
                obtain ⟨b2, o2, hwa⟩ : ∃ b2 o2, wa = some ⟨b2, o2, none⟩ := by
                  obtain ⟨_, b2, o2, _, e_, _⟩ := HWp.out.at hlt
                  exact ⟨b2, o2, e_⟩
                subst hwa
                have hcap := HWp.out.cap
                have HSm : Hid (∀ W, Below w9.heap.size w9 W → Calls Try.prog 15 #[.slice (some ⟨W.heap.size, 0, none⟩) 1 1, .slice (some ⟨b2, o2 + i * 2, none⟩) 1 (wc - i)] (W.alloc (.cells #[.slice y.ka y.e.key.length y.kc, .slice y.va y.e.val.length y.vc] 40)) fun e w' => e = .returned (.bool true) ∧ Below (W.alloc (.cells #[.slice y.ka y.e.key.length y.kc, .slice y.va y.e.val.length y.vc] 40)).heap.size (W.alloc (.cells #[.slice y.ka y.e.key.length y.kc, .slice y.va y.e.val.length y.vc] 40)) w') := fun W hW =>
                  samep_yes _ _ 1 1 (wc - i) [y] [x] _ (prs_box HYo.out hW) (((HWp.out.below (HB9.out.trans (hW.mono HB9.out.size))).one HX.out).below (below_alloc _ _)) (by
                    have h1 : y.e.key = x.e.key := HYk.out
                    have h2 : y.e.val = x.e.val := HYv.out
                    simp [ers, cle, h1, h2]) (by omega)
                have f6 : (i : Int) ≤ (i : Int) + 1 := by omega
                have f7 : (i : Int) + 1 ≤ (wc : Int) := by omega
                have f8 : ((i : Int) + 1).toNat = i + 1 := by omega
                have f9 : ¬ wc = i := by omega
                have f10 : i + 1 - i = 1 := by omega
                have f12 : ((true != true) : Bool) = false := rfl
                clear hx hxe
                go_wp2
                obtain ⟨wA, hwA⟩ : ∃ wA, wA = w9.alloc (.cells #[.slice y.ka y.e.key.length y.kc, .slice y.va y.e.val.length y.vc] 40) := ⟨_, rfl⟩
                have hbA : Below w9.heap.size w9 wA := by rw [hwA]; exact below_alloc _ _
                rw [← hwA] at g0 g1 ⊢
                clear hwA
                have HBA := hide hbA
                obtain ⟨P, hP⟩ : ∃ P, P = w9.heap.size := ⟨_, rfl⟩
                rw [← hP] at g0 g1 ⊢
                clear hP hbA
                have G0 := hide g0
                have G1 := hide g1
                have nn0 := World.new_ne wA _ g0
                go_region_held3 (fun W => W.cell? ⟨P, 0, none⟩ = some (.slice y.ka y.e.key.length y.kc) ∧ W.cell? ⟨P, 1, none⟩ = some (.slice y.va y.e.val.length y.vc)) (go_keep) ((first | (go_at_call 15; refine (HSm.out _ (HBA.out.drew)).mono ?_; intro r' w10 hh; obtain ⟨rfl, hb10⟩ := hh; have HB10 := hide ((below_alloc wA.drew (.cells #[.slice y.ka y.e.key.length y.kc, .slice y.va y.e.val.length y.vc] 40)).trans (hb10.mono (by simp))); clear g0 g1; have g0 := one_below1 (w := wA.drew) G0.out HB10.out; have g1 := one_below1 (w := wA.drew) G1.out HB10.out; clear hb10)))
                have hbz : Below w9.heap.size w9 w10 := HBA.out.drew.trans (HB10.out.mono HBA.out.drew.size)
                have HBz := hide hbz
                clear hbz
                go_wp2
                have hyx : y.e.key = x.e.key := HYk.out
                refine ⟨⟨(i : Int), y.ka, y.e.key.length, y.kc, y.e.key, false, by go_num, rfl, rfl, HB9.out.trans (HBz.out.mono HB9.out.size), HYo.out.key.below HBz.out, ?_, .inr ⟨s + 1, i, by omega, rfl, ?_⟩⟩, ?_⟩
                · rw [hyx]; exact (HBg.out x.e (List.mem_of_getElem? HXe.out)).1
                · rw [hyx]; exact nxD_next HVr.out hse'.out
                · simp [intOf] <;> omega
              | zero =>
                have hse : (ers vs).reverse[s]? = none := List.getElem?_eq_none (by rw [List.length_reverse, hvq]; omega)
                have f3 : ¬ (0 : Int) < 0 := by omega
                rw [hse] at HYk HYv ⊢
                clear hrv hse
                go_wp2
                go_quiet (fail)
                have HBn := hide (below_drewN (below_alloc w9 (.cells #[.slice y.ka y.e.key.length y.kc, .slice y.va y.e.val.length y.vc] 40)) nq)
                have hyk0 : y.e.key = [] := HYk.out
                have HYl0 : Hid (y.e.key.length = 0) := by rw [Hid, hyk0]; rfl
                clear hyk0
                go_wp2
                refine ⟨⟨-1, y.ka, y.e.key.length, y.kc, y.e.key, false, by go_num, rfl, rfl, HB9.out.trans (HBn.out.mono HB9.out.size), HYo.out.key.below HBn.out, by have := HYl0.out; omega, .inl rfl⟩, ?_⟩
                simp [intOf] <;> omega
end Go.Proofs.Ytfcebpenjdhgbaa
