/- Contract of Check, of any value: the walk. -/
import Derived.Test.YtegoeaofjnpehaaVD
namespace Go.Proofs.Ytegoeaofjnpehaa
open Go.RowKit Go.Shelf
attribute [local go_sem] Oper.semAt_some
set_option linter.unusedVariables false

mutual
theorem T.flat_len (d : Int) : ∀ v : T, (v.flat d).length = v.sz
  | .mk k bo n t ya yc y la lc l fa fc f => by simp only [T.flat, T.sz, List.length_cons, List.length_append, TL.flat_len (d + 1) l, FL.flat_len (d + 1) f]; omega
theorem TL.flat_len (d : Int) : ∀ l : TL, (l.flat d).length = l.sz
  | .nil => rfl
  | .cons v r => by simp only [TL.flat, TL.sz, List.length_append, T.flat_len d v, TL.flat_len d r]
theorem FL.flat_len (d : Int) : ∀ l : FL, (l.flat d).length = l.sz
  | .nil => rfl
  | .cons s v r => by simp only [FL.flat, FL.sz, List.length_append, T.flat_len d v, FL.flat_len d r]
end
theorem chk_deep (fe : T → Nat) (v : T) (pre : List (Int × T)) (x : Int × T) (rest : List (Int × T)) (h : v.flat 1 = pre ++ x :: rest) (hx : 8 < x.1) : chk fe v = 31 := by
  unfold chk
  rw [if_pos]
  rw [h]
  simp [hx]
theorem chk_many (fe : T → Nat) (v : T) (h : ∀ z ∈ v.flat 1, z.1 ≤ 8) (hl : 512 < (v.flat 1).length) : chk fe v = 32 := by
  unfold chk
  rw [if_neg, if_pos hl]
  simp only [List.any_eq_true, decide_eq_true_eq, not_exists, not_and]
  intro z hz
  have := h z hz
  omega
theorem chk_fits (fe : T → Nat) (v : T) (h : ∀ z ∈ v.flat 1, z.1 ≤ 8) (hl : ¬ 512 < (v.flat 1).length) : chk fe v = firstE fe (v.flat 1) := by
  unfold chk
  rw [if_neg, if_neg hl]
  simp only [List.any_eq_true, decide_eq_true_eq, not_exists, not_and]
  intro z hz
  have := h z hz
  omega

set_option maxHeartbeats 3200000 in
set_option maxRecDepth 1000000 in
theorem check_gen (fe : T → Nat) (n₀ : Nat) (v : T) (w : World) (hm : v.Mem n₀ w) (hn : n₀ ≤ w.heap.size) (hs : v.sz ≤ 999999) (hfe : ∀ x, fe x ≤ 60000)
    (HF : Hid (∀ x W, (∃ d, (d, x) ∈ v.flat 1) → x.Mem n₀ W → n₀ ≤ W.heap.size → Calls Try.prog 34 #[x.val] W fun e w' => e = .returned (.int .u16 (fe x : Int)) ∧ Below W.heap.size W w')) :
    Calls Try.prog 23 #[v.val] w fun e w' => e = .returned (.int .u16 (chk fe v : Int)) ∧ Below w.heap.size w w' := by
  have HFl := hide (T.flat_len 1 v)
  have HMm := hide (fun W (hW : Below n₀ w W) => flat_mem v.sz v (Nat.le_refl _) (hm.on hW) 1)
  have HP := hide (fun b w hb => parts_goesM b n₀ v w hb hs)
  have HC0 := hide (Cg.start w v)
  have HCd := hide (chk_deep fe v)
  have HCm := hide (chk_many fe v)
  have HCf := hide (chk_fits fe v)
  have HFe := hide hfe
  generalize hFL : v.flat 1 = fl at *
  clear hFL
  obtain ⟨k, bo, n, t, ya, yc, y, la, lc, ls, fa, fc, fs, hv'⟩ := v.seven
  have hval : v.val = .agg #[.int .u8 k, .bool bo, .int .i64 n, .string t, .slice ya y.length yc, .slice la ls.list.length lc, .slice fa fs.list.length fc] := by rw [hv']; rfl
  have hcs : v.cells.toArray = #[.int .u8 k, .bool bo, .int .i64 n, .string t, .slice ya y.length yc, .slice la ls.list.length lc, .slice fa fs.list.length fc] := by rw [hv']; rfl
  have HBx : Hid (∀ W b, BoxT W b v → Box7 W b (.int .u8 k) (.bool bo) (.int .i64 n) (.string t) (.slice ya y.length yc) (.slice la ls.list.length lc) (.slice fa fs.list.length fc)) := fun W b h => by rw [hv'] at h; exact h.seven
  have HBn : Hid (∀ W : World, BoxT (W.alloc (.cells #[.int .u8 k, .bool bo, .int .i64 n, .string t, .slice ya y.length yc, .slice la ls.list.length lc, .slice fa fs.list.length fc] 41)) W.heap.size v) := fun W => by rw [← hcs]; exact BoxT.new W v
  simp only [hval, hcs] at HC0 ⊢
  clear hv' hm hfe
  have HVal := hide hval
  clear hval hcs
  refine (callsIn_wide (n := 9)).1 ?_
  refine callsIn_of_wp_marks Try.func23 rfl trivial ?_ rfl
  simp only [Try.ntmps23, List.size_toArray, List.length_cons, List.length_nil, Nat.reduceAdd, Nat.reduceSub, Array.replicate_succ, Array.replicate_zero, List.push_toArray, List.append_toArray, List.nil_append, List.cons_append]
  gi_wp2
  refine ⟨trivial, (callsIn_wide.2 (parts_any _ _ _ _ _ _ _ _)).mono ?_⟩
  rintro e w' ⟨rfl, rfl⟩
  gi_wp2
  generalize hX0 : ((w.alloc (.cells #[.int .u8 k, .bool bo, .int .i64 n, .string t, .slice ya y.length yc, .slice la ls.list.length lc, .slice fa fs.list.length fc] 41)).alloc (.cells #[.int .u16 0] 27)).alloc (.cells #[.int .i64 0] 3) = X0 at *
  have hsx : X0.heap.size = w.heap.size + 1 + 1 + 1 := by rw [← hX0]; simp
  clear hX0
  rw [← hsx]
  have HG := hide (HP.out X0.heap.size _ (HBn.out X0))
  have HC1 := hide (HC0.out.on (below_alloc X0 (.cells #[.int .u8 k, .bool bo, .int .i64 n, .string t, .slice ya y.length yc, .slice la ls.list.length lc, .slice fa fs.list.length fc] 41)) (by omega))
  have hsx1 : X0.heap.size < (X0.alloc (.cells #[.int .u8 k, .bool bo, .int .i64 n, .string t, .slice ya y.length yc, .slice la ls.list.length lc, .slice fa fs.list.length fc] 41)).heap.size := by simp
  generalize X0.alloc (.cells #[.int .u8 k, .bool bo, .int .i64 n, .string t, .slice ya y.length yc, .slice la ls.list.length lc, .slice fa fs.list.length fc] 41) = X1 at *
  rw [hsx] at hsx1 HG ⊢
  clear hsx HC0
  generalize hb : w.heap.size = b at *
  have HBB := hide hb
  clear hb
  refine range_genM (gf := 44) (lb := #[.pointer (some ⟨b + 1 + 1 + 1, 0, none⟩)]) rfl (enters_of Try.func44 (by kernel_rfl) rfl)
    HG.out (fun _ => rfl)
    (fun pre V => Cg b w V v 0 (pre.length : Int) ∧ X1.heap.size ≤ V.heap.size ∧ ∀ z ∈ pre, z.1 ≤ 8) (fun c V => c = .ret ∧ (∃ cnt, Cg b w V v 31 cnt) ∧ X1.heap.size ≤ V.heap.size ∧ chk fe v = 31)
    (fun _ _ _ h hb => ⟨h.1.on hb (by omega), Nat.le_trans h.2.1 hb.size, h.2.2⟩)
    (fun _ _ _ h hb => ⟨h.1, ⟨_, h.2.1.choose_spec.on hb (by omega)⟩, Nat.le_trans h.2.2.1 hb.size, h.2.2.2⟩) ⟨HC1.out, Nat.le_refl _, by simp⟩
    (fun pre V h => HMm.out V (h.1.fr.below.mono hn))
    (fun x a' _ => a' = { tmps := #[.agg #[.int .u8 k, .bool bo, .int .i64 n, .string t, .slice ya y.length yc, .slice la ls.list.length lc, .slice fa fs.list.length fc], .pointer (some ⟨b, 0, none⟩), .pointer (some ⟨b + 1, 0, none⟩), .pointer (some ⟨b + 1 + 1, 0, none⟩), .int .i64 x.1, undef, undef, undef, .agg #[.int .u8 k, .bool bo, .int .i64 n, .string t, .slice ya y.length yc, .slice la ls.list.length lc, .slice fa fs.list.length fc], .func (.func 44) #[] #[.pointer (some ⟨b + 1 + 1 + 1, 0, none⟩)], .int .i64 x.1, x.2.val, undef, undef, undef, undef, undef, undef, undef, undef, undef, undef, undef, undef, undef, undef, undef], defers := [] }) (fun _ _ _ _ _ _ h _ => h) ?assign ?body ?done ?stop
  case assign =>
    intro l pre x V K hi hK
    gi_wp2
    exact hK _ _ hi (AB.refl _ _) rfl
  case body =>
    rintro l pre x rest a' V hx ⟨hi, hs1, hz⟩ rfl
    have hpl : pre.length < 1000000 := by have h5 := congrArg List.length hx; rw [HFl.out] at h5; simp at h5; omega
    have g3 := cell_of_one hi.cn
    have f3 := free_of_one hi.cn
    have g2 := cell_of_one hi.res
    have f2 := free_of_one hi.res
    have HI := hide hi
    have HZ := hide hz
    by_cases hd : 8 < x.1
    · have HD := hide (HCd.out pre x rest hx hd)
      have HAns := hide (hi.answer 31)
      clear hi hz hx
      gi_wp2
      exact ⟨⟨rfl, ⟨_, HAns.out⟩, by simpa [World.setCell] using hs1, HD.out⟩, AB.set _ _ (by omega)⟩
    · have hd' : x.1 ≤ 8 := by omega
      clear hi hz hx hd
      gi_wp2
      refine ⟨⟨?_, by simpa [World.setCell] using hs1, fun z hz => ?_⟩, AB.set _ _ (by omega)⟩
      · rw [List.length_append]
        exact HI.out.count _
      · rcases List.mem_append.1 hz with h | h
        · exact HZ.out z h
        · rw [List.mem_singleton.1 h]; exact hd'
  case stop =>
    rintro D c V hD ⟨rfl, ⟨cnt, hi⟩, hs1, hc⟩ hK
    have HK := hide hK
    have HI := hide hi
    have HCk := hide hc
    clear hK hi hc
    gi_wp2
    refine ⟨by simp, .inl ⟨_, _, rfl, run_takeDeferred HK.out, ?_⟩⟩
    have hc2 : (V.putObj D (.deferred none)).cell? ⟨b + 1, 0, none⟩ = some (.int .u16 31) := cell_of_one ((World.putObj_heap_other (by omega)).trans HI.out.res)
    refine ⟨.int .u16 31, ?_, by rw [HCk.out]; rfl, ?_⟩
    · simp [results, Try.results23, go_sem, hc2]
    · rw [HBB.out]
      exact HI.out.fr.below.trans (below_put _ _ _ (by omega) (lt_of_block HK.out))
  case done =>
    rintro D V hD ⟨hi, hs1, hz⟩ hK
    have HI := hide hi
    have HK := hide hK
    have HZ := hide hz
    obtain ⟨k0, k1, k2, k3, k4, k5, k6⟩ := (HBx.out _ _ hi.box).cells
    have g3 := cell_of_one hi.cn
    have g2 := cell_of_one hi.res
    have f2 := free_of_one hi.res
    clear hi hK hz
    have hLm : fl.length ≤ 999999 := by have := HFl.out; omega
    generalize hL : fl.length = L at *
    have HL := hide hL
    clear hL
    by_cases hmany : 512 < L
    · have hdm : decide ((512 : Int) < (L : Int)) = true := by simp; omega
      have HD := hide (HCm.out HZ.out hmany)
      have HAns := hide (HI.out.answer 32)
      clear k0 k1 k2 k3 k4 k5 k6
      gi_wp2
      have hK' : (V.setCell ⟨b + 1, 0, none⟩ (.int .u16 32)).heap[D]? = some (.deferred (some [])) := (Below.heap_setCell _ _ _ _ (fun e => by have e' : D = b + 1 := e; omega)).trans HK.out
      refine ⟨by simp, .inl ⟨_, _, rfl, run_takeDeferred hK', ?_⟩⟩
      have hc2 : ((V.setCell ⟨b + 1, 0, none⟩ (.int .u16 32)).putObj D (.deferred none)).cell? ⟨b + 1, 0, none⟩ = some (.int .u16 32) := cell_of_one ((World.putObj_heap_other (by omega)).trans HAns.out.res)
      refine ⟨.int .u16 32, ?_, by rw [HD.out]; rfl, ?_⟩
      · simp [results, Try.results23, go_sem, hc2]
      · rw [HBB.out]
        exact HAns.out.fr.below.trans (below_put _ _ _ (by omega) (lt_of_block hK'))
    · have hdm : decide ((512 : Int) < (L : Int)) = false := by simp; omega
      have HD := hide (HCf.out HZ.out (by omega))
      gi_wp2
      refine ⟨trivial, (callsIn_wide.2 (parts_any _ _ _ _ _ _ _ _)).mono ?_⟩
      rintro e w' ⟨rfl, rfl⟩
      gi_wp2
      have HG2 := hide (HP.out V.heap.size _ (HBn.out V))
      have HI2 := hide (HI.out.on (below_alloc V (.cells #[.int .u8 k, .bool bo, .int .i64 n, .string t, .slice ya y.length yc, .slice la ls.list.length lc, .slice fa fs.list.length fc] 41)) (by omega))
      have HK2 := hide ((Below.heap_alloc V (.cells #[.int .u8 k, .bool bo, .int .i64 n, .string t, .slice ya y.length yc, .slice la ls.list.length lc, .slice fa fs.list.length fc] 41) D (lt_of_block HK.out)).trans HK.out)
      have hDV := lt_of_block HK.out
      have hsx2 : V.heap.size < (V.alloc (.cells #[.int .u8 k, .bool bo, .int .i64 n, .string t, .slice ya y.length yc, .slice la ls.list.length lc, .slice fa fs.list.length fc] 41)).heap.size := by simp
      generalize V.alloc (.cells #[.int .u8 k, .bool bo, .int .i64 n, .string t, .slice ya y.length yc, .slice la ls.list.length lc, .slice fa fs.list.length fc] 41) = X2 at *
      clear k0 k1 k2 k3 k4 k5 k6 g3 g2 f2 HI HK
      refine range_genM (gf := 44) (lb := #[.pointer (some ⟨V.heap.size, 0, none⟩)]) rfl (enters_of Try.func44 (by kernel_rfl) rfl)
        HG2.out (fun _ => rfl)
        (fun pre W => Cg b w W v 0 (L : Int) ∧ X2.heap.size ≤ W.heap.size ∧ W.heap[D]? = some (.deferred (some [])) ∧ ∀ z ∈ pre, fe z.2 = 0) (fun c W => c = .ret ∧ Cg b w W v (chk fe v) (L : Int) ∧ X2.heap.size ≤ W.heap.size ∧ W.heap[D]? = some (.deferred (some [])))
        (fun _ _ _ h hb => ⟨h.1.on hb (by omega), Nat.le_trans h.2.1 hb.size, (hb.block _ (by omega)).trans h.2.2.1, h.2.2.2⟩)
        (fun _ _ _ h hb => ⟨h.1, h.2.1.on hb (by omega), Nat.le_trans h.2.2.1 hb.size, (hb.block _ (by omega)).trans h.2.2.2⟩) ⟨HI2.out, Nat.le_refl _, HK2.out, by simp⟩
        (fun pre W h => HMm.out W (h.1.fr.below.mono hn))
        (fun x a' W => ∃ p, BoxT W p x.2 ∧ a' = { tmps := #[.agg #[.int .u8 k, .bool bo, .int .i64 n, .string t, .slice ya y.length yc, .slice la ls.list.length lc, .slice fa fs.list.length fc], .pointer (some ⟨b, 0, none⟩), .pointer (some ⟨b + 1, 0, none⟩), .pointer (some ⟨b + 1 + 1, 0, none⟩), undef, undef, .pointer (some ⟨p, 0, none⟩), undef, .agg #[.int .u8 k, .bool bo, .int .i64 n, .string t, .slice ya y.length yc, .slice la ls.list.length lc, .slice fa fs.list.length fc], .func (.func 44) #[] #[.pointer (some ⟨b + 1 + 1 + 1, 0, none⟩)], undef, undef, undef, undef, undef, undef, .int .i64 (L : Int), .bool false, .agg #[.int .u8 k, .bool bo, .int .i64 n, .string t, .slice ya y.length yc, .slice la ls.list.length lc, .slice fa fs.list.length fc], .func (.func 44) #[] #[.pointer (some ⟨V.heap.size, 0, none⟩)], .int .i64 x.1, x.2.val, undef, undef, undef, undef, undef], defers := [] })
        (fun _ _ W l r o h hl => by
          obtain ⟨p, hp, ha⟩ := h
          refine ⟨p, (World.putObj_heap_other (fun e => ?_)).trans hp, ha⟩
          subst e
          unfold BoxT at hp
          rw [hl] at hp
          cases hp) ?assign2 ?body2 ?done2 ?stop2
      case assign2 =>
        rintro l pre ⟨xd, x⟩ W K ⟨h1, h2, h3, h4⟩ hK
        cases x with
        | mk ck cbo cn ct cya cyc cy cla clc cl cfa cfc cf =>
        simp only [T.val]
        gi_wp2
        have hb := below_alloc W (.cells #[.int .u8 ck, .bool cbo, .int .i64 cn, .string ct, .slice cya cy.length cyc, .slice cla cl.list.length clc, .slice cfa cf.list.length cfc] 41)
        exact hK _ _ ⟨h1.on hb (by omega), Nat.le_trans h2 hb.size, (hb.block _ (by omega)).trans h3, h4⟩ (AB.of_below hb) ⟨W.heap.size, BoxT.new W (.mk ck cbo cn ct cya cyc cy cla clc cl cfa cfc cf), rfl⟩
      case body2 =>
        rintro l pre ⟨xd, x⟩ rest a' W hx ⟨h1, h2, h3, h4⟩ ⟨p, hp, rfl⟩
        have hxm := HMm.out W (h1.fr.below.mono hn) (xd, x) (by rw [hx]; simp)
        have HCall := hide (HF.out x W ⟨xd, by rw [hx]; simp⟩ hxm (by have := h1.fr.size; omega))
        have HSn := hide (firstE_snoc fe pre (xd, x) rest h4)
        have hfx := HFe.out x
        have H1 := hide h1
        have H3 := hide h3
        have H4 := hide h4
        have HX := hide hx
        clear hx h1 h3 h4 hxm
        by_cases hz : fe x = 0
        · have HZx := hide hz
          cases x with
          | mk ck cbo cn ct cya cyc cy cla clc cl cfa cfc cf =>
          obtain ⟨p0, p1, p2, p3, p4, p5, p6⟩ := hp.seven.cells
          simp only [T.val] at HCall ⊢
          rw [hz] at HCall
          clear hp hz hfx
          gi_wp2
          refine ⟨trivial, (CallsIn.inRound l (callsIn_wide.2 HCall.out)).mono ?_⟩
          rintro e W1 ⟨rfl, hb⟩
          have HB := hide hb
          clear hb p0 p1 p2 p3 p4 p5 p6
          gi_wp2
          refine ⟨⟨H1.out.on HB.out (by omega), Nat.le_trans h2 HB.out.size, (HB.out.block _ (lt_of_block H3.out)).trans H3.out, fun z hz => ?_⟩, AB.of_below HB.out⟩
          rcases List.mem_append.1 hz with h | h
          · exact H4.out z h
          · rw [List.mem_singleton.1 h]; exact HZx.out
        · have HCk : Hid (chk fe v = fe x) := by rw [Hid, HD.out, HX.out, HSn.out, if_neg hz]
          cases x with
          | mk ck cbo cn ct cya cyc cy cla clc cl cfa cfc cf =>
          obtain ⟨p0, p1, p2, p3, p4, p5, p6⟩ := hp.seven.cells
          simp only [T.val] at HCall ⊢
          generalize fe (T.mk ck cbo cn ct cya cyc cy cla clc cl cfa cfc cf) = ex at *
          have hzb : ((ex : Int) != 0) = true := by rw [bne_iff_ne]; omega
          clear hp hz
          gi_wp2
          refine ⟨trivial, (CallsIn.inRound l (callsIn_wide.2 HCall.out)).mono ?_⟩
          rintro e W1 ⟨rfl, hb⟩
          have HB := hide hb
          have HC2 := hide (H1.out.on hb (by omega))
          have hsW1 := hb.size
          clear hb p0 p1 p2 p3 p4 p5 p6
          have g2 := cell_of_one HC2.out.res
          have f2 := free_of_one HC2.out.res
          gi_wp2
          refine ⟨⟨rfl, by rw [HCk.out]; exact HC2.out.answer ex, by simp [World.setCell]; omega, ?_⟩, (AB.of_below HB.out).trans (AB.set _ _ (by omega))⟩
          exact (Below.heap_setCell _ _ _ _ (fun e => by have e' : D = b + 1 := e; omega)).trans ((HB.out.block _ (lt_of_block H3.out)).trans H3.out)
      case stop2 =>
        rintro D2 c W hD2 ⟨rfl, h1, h2, h3⟩ hK2
        have H1 := hide h1
        have H3 := hide h3
        have HKK := hide hK2
        clear h1 h3 hK2
        gi_wp2
        have h4' : (W.putObj D2 (.deferred none)).heap[D]? = some (.deferred (some [])) := (World.putObj_heap_other (by omega)).trans H3.out
        refine ⟨by simp, .inl ⟨_, _, rfl, run_takeDeferred HKK.out, by simp, .inl ⟨_, _, rfl, run_takeDeferred h4', ?_⟩⟩⟩
        have hc : ((W.putObj D2 (.deferred none)).putObj D (.deferred none)).cell? ⟨b + 1, 0, none⟩ = some (.int .u16 (chk fe v : Int)) :=
          cell_of_one ((World.putObj_heap_other (by omega)).trans ((World.putObj_heap_other (by omega)).trans H1.out.res))
        refine ⟨.int .u16 (chk fe v : Int), ?_, rfl, ?_⟩
        · simp [results, Try.results23, go_sem, hc]
        · rw [HBB.out]
          exact H1.out.fr.below.trans ((below_put _ _ _ (by omega) (lt_of_block HKK.out)).trans (below_put _ _ _ (by omega) (lt_of_block h4')))
      case done2 =>
        rintro D2 W hD2 ⟨h1, h2, h3, h4⟩ hK2
        have HCk : Hid (chk fe v = 0) := HD.out.trans (firstE_all fe _ h4)
        have g2 := cell_of_one h1.res
        have f2 := free_of_one h1.res
        have H1 := hide (h1.answer 0)
        have H3 := hide h3
        have HKK := hide hK2
        clear h1 h3 h4 hK2
        gi_wp2
        have h2' : (W.setCell ⟨b + 1, 0, none⟩ (.int .u16 0)).heap[D2]? = some (.deferred (some [])) := (Below.heap_setCell _ _ _ _ (fun e => by have e' : D2 = b + 1 := e; omega)).trans HKK.out
        have h3' : (W.setCell ⟨b + 1, 0, none⟩ (.int .u16 0)).heap[D]? = some (.deferred (some [])) := (Below.heap_setCell _ _ _ _ (fun e => by have e' : D = b + 1 := e; omega)).trans H3.out
        have h4' : ((W.setCell ⟨b + 1, 0, none⟩ (.int .u16 0)).putObj D2 (.deferred none)).heap[D]? = some (.deferred (some [])) := (World.putObj_heap_other (by omega)).trans h3'
        refine ⟨by simp, .inl ⟨_, _, rfl, run_takeDeferred h2', by simp, .inl ⟨_, _, rfl, run_takeDeferred h4', ?_⟩⟩⟩
        have hc : (((W.setCell ⟨b + 1, 0, none⟩ (.int .u16 0)).putObj D2 (.deferred none)).putObj D (.deferred none)).cell? ⟨b + 1, 0, none⟩ = some (.int .u16 0) :=
          cell_of_one ((World.putObj_heap_other (by omega)).trans ((World.putObj_heap_other (by omega)).trans H1.out.res))
        refine ⟨.int .u16 0, ?_, by rw [HCk.out]; rfl, ?_⟩
        · simp [results, Try.results23, go_sem, hc]
        · rw [HBB.out]
          refine H1.out.fr.below.trans ?_
          exact (below_put _ _ _ (by omega) (lt_of_block h2')).trans (below_put _ _ _ (by omega) (lt_of_block h4'))
end Go.Proofs.Ytegoeaofjnpehaa
