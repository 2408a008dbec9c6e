/- The document's Check of a value that may stand in a key. -/
import Derived.Test.YtegoeaofjnpehabKK
import Derived.Test.YtegoeaofjnpehabXF
import Derived.Test.YtegoeaofjnpehabT
import Derived.Test.YtegoeaofjnpehabKJ
namespace Go.Proofs.Ytegoeaofjnpehab
open Go.RowKit
set_option linter.unusedVariables false

theorem fit4_rn {bo : Bool} {n : Int} {t : ByteArray} {ya : Option Addr} {yc : Nat} {y : List Int} {la : Option Addr} {lc : Nat} {l : TL} {fa : Option Addr} {fc : Nat} {f : FL} (h : fitE (.mk 4 bo n t ya yc y la lc l fa fc f) = 0) : (rn t).2 = true ∧ (rn t).1 ≤ 1000 := by
  by_cases hb : alB 4 bo n t y.length l.list.length f.list.length 4 false 0 t 0 0 0 = true
  · simp only [fitE, hb, if_true] at h
    cases hv : (rn t).2
    · rw [hv] at h; simp at h
    · rw [hv] at h; refine ⟨rfl, ?_⟩; simp at h; omega
  · simp [fitE, hb] at h
theorem own_doc (v : T) (hg : v.gk) (hz : fitE v = 0) (w : World) : Calls Try.prog 41 #[v.val] w fun e w' => e = .returned (.int .i64 0) ∧ Below w.heap.size w w' := by
  cases v with
  | mk k bo n t ya yc y la lc l fa fc f =>
  obtain ⟨⟨⟨a1, a2⟩, _, ht, hy, _⟩, ⟨b2, b3, b4, b5, b6, hf⟩, _⟩ := hg
  have hk : k = 1 ∨ k = 2 ∨ k = 3 ∨ k = 4 ∨ k = 5 ∨ k = 6 := by omega
  simp only [T.val, hf, List.length_nil]
  rcases hk with rfl | rfl | rfl | rfl | rfl | rfl
  · rw [b2 (by decide), b3 (by decide), b4 (by decide), b5 (by decide), b6 (by decide)]
    exact own1 ya yc la lc fa fc w
  · rw [b3 (by decide), b4 (by decide), b5 (by decide), b6 (by decide)]
    exact own2 bo ya yc la lc fa fc w
  · rw [b2 (by decide), b4 (by decide), b5 (by decide), b6 (by decide)]
    exact own3 n ya yc la lc fa fc w
  · obtain ⟨h1, h2⟩ := fit4_rn hz
    rw [b2 (by decide), b3 (by decide), b5 (by decide), b6 (by decide)]
    exact own4 t ya yc la lc fa fc w (by omega) h1 h2
  · rw [b2 (by decide), b3 (by decide), b4 (by decide), b6 (by decide)]
    exact own5 y.length ya yc la lc fa fc w hy
  · rw [b2 (by decide), b3 (by decide), b4 (by decide), b5 (by decide)]
    exact own6 l.list.length ya yc la lc fa fc w
set_option maxHeartbeats 3200000 in
set_option maxRecDepth 1000000 in
theorem all_doc : ∀ (N : Nat) (v : T), v.sz ≤ N → v.gk → v.sz ≤ 90000 → ∀ (d : Int), (∀ z ∈ v.flat d, fitE z.2 = 0) → ∀ (n₀ : Nat) (w : World), v.Mem n₀ w → n₀ ≤ w.heap.size → Calls Try.prog 28 #[v.val] w fun e w' => e = .returned (.int .i64 0) ∧ Below w.heap.size w w' := by
  intro N
  induction N with
  | zero => intro v hv; cases v; simp [T.sz] at hv
  | succ N ih =>
    intro v hv hg hs d hz n₀ w hm hn
    have h0 := hz (d, v) (by rw [T.flat_is]; simp)
    have HOw := hide (fun W => own_doc v hg h0 W)
    cases v with
    | mk k bo n t ya yc y la lc l fa fc f =>
    obtain ⟨hg1, ⟨_, _, _, _, _, hf⟩, hlg⟩ := hg
    have hf0 := FL.nil_of' f hf
    subst hf0
    have hll := TL.len_le l
    simp only [T.sz, FL.sz] at hv hs
    have HK := hide (fun W (hW : Below w.heap.size w W) => kids_doc n₀ k bo n t ya yc y.length la lc l fa fc W (hm.2.2.2.2.1.on (hW.mono hn)) hm.2.2.2.2.2.1 (by have := hW.size; omega) (by omega))
    have HIH : Hid (∀ c ∈ l.list, ∀ (n₁ : Nat) (W : World), c.Mem n₁ W → n₁ ≤ W.heap.size → Calls Try.prog 28 #[c.val] W fun e w' => e = .returned (.int .i64 0) ∧ Below W.heap.size W w') := fun c hc n₁ W hcm hw => by
      have h1 := TL.sz_mem' l c hc
      refine ih c (by omega) (TL.gk_mem l hlg c hc) (by omega) (d + 1) (fun z hzc => hz z ?_) n₁ W hcm hw
      rw [T.flat_is]
      exact List.mem_cons_of_mem _ (List.mem_flatMap.2 ⟨c, by simp only [T.kids]; exact List.mem_append_left _ hc, hzc⟩)
    have HLb := hide (show l.list.length ≤ 90000 by omega)
    clear ih hm hg1 hf hlg hv hs hz h0
    simp only [T.val, FL.list, List.length_nil] at HOw ⊢
    have HX := hide (below_alloc w (.cells #[.int .u8 k, .bool bo, .int .i64 n, .string t, .slice ya y.length yc, .slice la l.list.length lc, .slice fa 0 fc] 32))
    have HBx := hide (Box7.new w (.int .u8 k) (.bool bo) (.int .i64 n) (.string t) (.slice ya y.length yc) (.slice la l.list.length lc) (.slice fa 0 fc))
    go_enter Try.func28, Try.ntmps28
    go_wp2_with (first | (go_at_call 41; refine (HOw.out _).mono ?_; rintro e w0 ⟨rfl, hb0⟩; have HB0 := hide (HX.out.trans (hb0.mono HX.out.size)); have HBy := hide (HBx.out.below hb0); clear hb0; obtain ⟨j0, j1, j2, j3, j4, j5, j6⟩ := HBy.out.cells) | (go_at_call 40; refine (HK.out _ HB0.out).mono ?_; rintro e w1 ⟨oa, oc, rfl, hmem, hb⟩; have HMm := hide hmem; have HB := hide (HB0.out.trans (hb.mono HB0.out.size)); clear hmem hb))
    go_loopw [3, 5] (fun o i wr => ∃ j : Nat, i = .int .i64 (j : Int) ∧ j ≤ l.list.length ∧ o = .int .i64 0 ∧ Fr w1.heap.size w1 wr) (fun _ i _ => l.list.length - (intOf i).toNat)
    case atStart => exact ⟨0, rfl, by omega, rfl, Fr.refl w1⟩
    case round =>
      obtain ⟨j, rfl, hj, rfl, hfr⟩ := hrel
      have HFr := hide hfr
      clear hfr
      by_cases hlt : j < l.list.length
      · obtain ⟨c, hc⟩ : ∃ c, l.list[j]? = some c := ⟨_, List.getElem?_eq_getElem hlt⟩
        have hmem : c ∈ l.list := List.mem_of_getElem? hc
        have HMw := hide (HMm.out.on HFr.out.below)
        have HMc := hide (TL.Mem.at l 0 HMw.out j c hc).2
        have HIc := hide (HIH.out c hmem w1.heap.size)
        have hjl : (j : Int) < (l.list.length : Int) := by omega
        have HLt := hide hlt
        have hlb : (l.list.length : Int) ≤ 90000 := by have := HLb.out; omega
        clear hmem
        cases c with
        | mk ck cbo cn ct cya cyc cy cla clc cl cfa cfc cf =>
        obtain ⟨b', o', rfl, hb', c0, c1, c2, c3, c4, c5, c6⟩ := HMw.out.cells hc
        clear hc
        simp only [T.val] at HIc
        go_wp2_with (go_at_call 28; refine (HIc.out _ HMc.out HFr.out.size).mono ?_; rintro e V ⟨rfl, hb3⟩; have HF3 := hide (HFr.out.on hb3); clear hb3 c0 c1 c2 c3 c4 c5 c6)
        go_roundw
        case rel => exact ⟨j + 1, by have h1 := HLt.out; have h2 := HLb.out; first | go_num | rfl | (rw [IntWalk.wrap64_in _ ⟨by omega, by omega⟩]; push_cast; rfl), by have := HLt.out; omega, rfl, HF3.out⟩
        case measure => have h1 := HLt.out; have h2 := HLb.out; first | (simp [intOf]; omega) | (rw [IntWalk.wrap64_in _ ⟨by omega, by omega⟩]; simp [intOf]; omega)
      · have hjl : ¬ (j : Int) < (l.list.length : Int) := by omega
        go_wp2
        go_ret
        exact ⟨rfl, HB.out.trans (HFr.out.below.mono HB.out.size)⟩
mutual
theorem T.dp_of (m : Int) : ∀ (v : T) (d : Int), (∀ z ∈ v.flat d, z.1 ≤ m) → d + v.dp ≤ m + 1
  | .mk k bo n t ya yc y la lc l fa fc f, d, h => by
    simp only [T.flat] at h
    simp only [T.dp]
    have h1 : d ≤ m := h (d, .mk k bo n t ya yc y la lc l fa fc f) (List.mem_cons_self ..)
    have h2 := TL.dp_of m l (d + 1) (fun z hz => h z (List.mem_cons_of_mem _ (List.mem_append_left _ hz)))
    omega
theorem TL.dp_of (m : Int) : ∀ (l : TL) (d : Int), (∀ z ∈ l.flat d, z.1 ≤ m) → d + l.dp ≤ m + 1 ∨ l.dp = 0
  | .nil, d, h => .inr rfl
  | .cons v r, d, h => by
    simp only [TL.flat] at h
    simp only [TL.dp]
    have h1 := T.dp_of m v d (fun z hz => h z (List.mem_append_left _ hz))
    have h2 := TL.dp_of m r d (fun z hz => h z (List.mem_append_right _ hz))
    left
    rcases h2 with h2 | h2 <;> omega
end
set_option maxHeartbeats 3200000 in
set_option maxRecDepth 1000000 in
theorem check_doc (v : T) (hg : v.gk) (hc : ckE v = 0) (hs : v.sz ≤ 512) (n₀ : Nat) (w : World) (hm : v.Mem n₀ w) (hn : n₀ ≤ w.heap.size) : Calls Try.prog 13 #[v.val] w fun e w' => e = .returned (.int .i64 0) ∧ Below w.heap.size w w' := by
  unfold ckE chk at hc
  split at hc
  · omega
  rename_i hd8
  split at hc
  · omega
  have hz := firstE_zero _ _ hc
  have hdp : v.dp ≤ 8 := by
    have := T.dp_of 8 v 1 (fun z hzz => Decidable.byContradiction fun hgt => hd8 (List.any_eq_true.2 ⟨z, hzz, by simp; omega⟩))
    omega
  have HD := hide (fun W (hW : Below w.heap.size w W) => deep_doc v.sz v (Nat.le_refl _) hg (by omega) 8 hdp (by omega) n₀ W (hm.on (hW.mono hn)) (by have := hW.size; omega))
  have HP := hide (fun W (hW : Below w.heap.size w W) => parts_doc v.sz v (Nat.le_refl _) hg 0 (by omega) n₀ W (hm.on (hW.mono hn)) (by have := hW.size; omega))
  have HA := hide (fun W (hW : Below w.heap.size w W) => all_doc v.sz v (Nat.le_refl _) hg (by omega) 1 hz n₀ W (hm.on (hW.mono hn)) (by have := hW.size; omega))
  have hsz : ((0 + v.sz : Nat) : Int) ≤ 512 := by omega
  generalize 0 + v.sz = q at HP hsz
  clear hm hz hdp hd8 hc hg hs
  cases v with
  | mk k bo n t ya yc y la lc l fa fc f =>
  simp only [T.val] at HD HP HA ⊢
  have HX := hide (below_alloc w (.cells #[.int .u8 k, .bool bo, .int .i64 n, .string t, .slice ya y.length yc, .slice la l.list.length lc, .slice fa f.list.length fc] 32))
  have HBx := hide (Box7.new w (.int .u8 k) (.bool bo) (.int .i64 n) (.string t) (.slice ya y.length yc) (.slice la l.list.length lc) (.slice fa f.list.length fc))
  go_enter Try.func13, Try.ntmps13
  go_wp2_with (first | (go_at_call 26; refine (HD.out _ HX.out).mono ?_; rintro e w0 ⟨rfl, hb0⟩; have HB0 := hide (HX.out.trans (hb0.mono HX.out.size)); have HBy := hide (HBx.out.below hb0); clear hb0; obtain ⟨j0, j1, j2, j3, j4, j5, j6⟩ := HBy.out.cells) | (go_at_call 27; refine (HP.out _ HB0.out).mono ?_; rintro e w1 ⟨rfl, hb1⟩; have HB1 := hide (HB0.out.trans (hb1.mono HB0.out.size)); have HBz := hide (HBy.out.below hb1); clear hb1 j0 j1 j2 j3 j4 j5 j6; obtain ⟨j0, j1, j2, j3, j4, j5, j6⟩ := HBz.out.cells) | (go_at_call 28; refine (HA.out _ HB1.out).mono ?_; rintro e w2 ⟨rfl, hb2⟩; have HB2 := hide (HB1.out.trans (hb2.mono HB1.out.size)); clear hb2))
  go_ret
  exact ⟨rfl, HB2.out⟩
end Go.Proofs.Ytegoeaofjnpehab
/- Split of bytes that begin with a value's. -/
namespace Go.Proofs.Ytegoeaofjnpehab
open Go.RowKit
set_option linter.unusedVariables false

theorem below_grown {w w' : World} (hg : w.grownBy w' (Value.slice none 0 0).ownBlock) : Below w.heap.size w w' := ⟨hg.os, hg.tape, hg.output, hg.size, fun k hk => hg.block k hk (by simp [Value.ownBlock])⟩
set_option maxHeartbeats 3200000 in
set_option maxRecDepth 1000000 in
theorem split_in (b o cap : Nat) (bs rest : List Int) (c : T) (d : Bool) (w : World) (hrow : Row w (some ⟨b, o, none⟩) bs) (hby : Byts bs) (hsm : bs.length ≤ 1000000) (hcap : bs.length ≤ cap) (hE : bs.map (tn (mk d)) = c.enc ++ rest) (hg : c.gk) (hck : ckE c = 0) (hwt : c.wt ≤ 20000) (hsz : c.sz ≤ 512) :
    Calls Try.prog 7 #[.slice (some ⟨b, o, none⟩) bs.length cap, .bool d] w fun e w' => ∃ V a n cp, e = .returned (.tuple #[V, .slice a n cp, .int .u16 0]) ∧ Below w.heap.size w w' ∧ Own w' (.slice a n cp) (bs.drop c.enc.length) ∧ (∀ k, (Value.slice a n cp).ownBlock = some k → w.heap.size ≤ k) ∧ Stays w w' V c := by
  obtain ⟨i0, hi, hz0, hz1, hz2⟩ := info_parts Try.info5
  have hlen : c.enc.length ≤ bs.length := by
    have := congrArg List.length hE
    simp only [List.length_map, List.length_append] at this
    omega
  have hne : 1 ≤ c.enc.length := by obtain ⟨h1, -⟩ := gk_head c hg; rw [h1]; simp
  have HRw := hide hrow
  have HFi := hide (fun W (hb : Below w.heap.size w W) => first_all d (mk d) (some ⟨b, o, none⟩) cap bs rest c W (hrow.below hb) hby hsm (by unfold mk; split <;> omega) hE hg hck hwt hsz (hide (fun W => turning_any d W)))
  clear hrow hE hg hck hwt hsz
  generalize c.enc.length = cn at *
  go_enter Try.func7, Try.ntmps7
  go_wp2_with fail
  have HB0 := hide (Box7.new w (.int .u8 0) (.bool false) (.int .i64 0) (.string ⟨#[]⟩) (.slice none 0 0) (.slice none 0 0) (.slice none 0 0))
  have HF0 := hide ((Fr.refl w).alloc (.cells #[.int .u8 0, .bool false, .int .i64 0, .string ⟨#[]⟩, .slice none 0 0, .slice none 0 0, .slice none 0 0] 32))
  refine (HFi.out _ (below_alloc _ _)).mono ?_
  rintro e W2 ⟨V, rfl, hb2, hs2⟩
  obtain ⟨⟨vk, vbo, vn, vt, vya, vyc, vy, vla, vlc, vl, vfa, vfc, vf⟩, hv0, -⟩ := hs2 W2 (Nat.le_refl _) (fun _ _ _ => rfl)
  simp only [T.val] at hv0
  subst hv0
  have HB2 := hide (HB0.out.below hb2)
  have HF2 := hide (HF0.out.on hb2)
  have HS2 : Hid (Stays (w.alloc (.cells #[.int .u8 0, .bool false, .int .i64 0, .string ⟨#[]⟩, .slice none 0 0, .slice none 0 0, .slice none 0 0] 32)) W2 (.agg #[.int .u8 vk, .bool vbo, .int .i64 vn, .string vt, .slice vya vy.length vyc, .slice vla vl.list.length vlc, .slice vfa vf.list.length vfc]) c) := hs2
  have HBe := hide hb2
  clear hb2 hs2 HB0 HF0
  have HB4 := hide (HB2.out.below (below_alloc W2 (.cells #[.int .u8 vk, .bool vbo, .int .i64 vn, .string vt, .slice vya vy.length vyc, .slice vla vl.list.length vlc, .slice vfa vf.list.length vfc] 32)))
  have HJ4 := hide (Box7.new W2 (.int .u8 vk) (.bool vbo) (.int .i64 vn) (.string vt) (.slice vya vy.length vyc) (.slice vla vl.list.length vlc) (.slice vfa vf.list.length vfc))
  have HF4 := hide (HF2.out.alloc (.cells #[.int .u8 vk, .bool vbo, .int .i64 vn, .string vt, .slice vya vy.length vyc, .slice vla vl.list.length vlc, .slice vfa vf.list.length vfc] 32))
  have H24 := hide (below_alloc W2 (.cells #[.int .u8 vk, .bool vbo, .int .i64 vn, .string vt, .slice vya vy.length vyc, .slice vla vl.list.length vlc, .slice vfa vf.list.length vfc] 32))
  have HSr : Hid (∀ X, Below w.heap.size w X → Src Try.prog 1 22 (.slice (some ⟨b, o + cn, none⟩) (bs.length - cn) (cap - cn)) (bs.length - cn) ((bs.drop cn).map (Value.int .u8)) X) := fun X hX => src_row X _ _ _ _ (by simp) (fun e => by cases e) ((HRw.out.drop cn).below hX)
  have HSn : Hid (∀ X, Src Try.prog 1 22 (.slice (some ⟨b, o, none⟩) 0 0) 0 (([] : List Int).map (Value.int .u8)) X) := fun X => src_row X _ _ _ _ (by simp) (fun e => by cases e) (.inl rfl)
  go_wp2_with fail
  generalize W2.alloc (.cells #[.int .u8 vk, .bool vbo, .int .i64 vn, .string vt, .slice vya vy.length vyc, .slice vla vl.list.length vlc, .slice vfa vf.list.length vfc] 32) = X4 at HB4 HJ4 HF4 H24 ⊢
  have hq1 : w.heap.size < X4.heap.size := HB4.out.lt
  have hq2 : W2.heap.size < X4.heap.size := HJ4.out.lt
  have hq3 : w.heap.size < W2.heap.size := HB2.out.lt
  have BA : Below w.heap.size w X4.drew := HF4.out.drew.below
  have HFs := hide (HF4.out.drew.grown (grown_set7 X4.drew w.heap.size (.int .u8 vk) (.bool vbo) (.int .i64 vn) (.string vt) (.slice vya vy.length vyc) (.slice vla vl.list.length vlc) (.slice vfa vf.list.length vfc)) (fun x e => by cases e; exact Nat.le_refl _))
  have BB := HFs.out.below
  have HGs := hide (grown_set7 X4.drew w.heap.size (.int .u8 vk) (.bool vbo) (.int .i64 vn) (.string vt) (.slice vya vy.length vyc) (.slice vla vl.list.length vlc) (.slice vfa vf.list.length vfc))
  clear HB2 HF2
  obtain ⟨j0, j1, j2, j3, j4, j5, j6⟩ := (HJ4.out.below (Below.refl _ _).drew).cells
  obtain ⟨l0, l1, l2, l3, l4, l5, l6⟩ := (HB4.out.below (Below.refl _ _).drew).cells
  have fr := (HB4.out.below (Below.refl _ _).drew).free
  by_cases hcp : cap = cn
  · obtain rfl : cap = cn := hcp
    have hdn : bs.drop cap = [] := List.drop_eq_nil_of_le hcap
    have hbl : bs.length = cap := by omega
    go_wp2
    go_region_law (refine step_append_src (by rfl) (.const (.slice none 0 0)) (.tmp 23) 22 22 (by rfl) i0 Try.underlying22 hi hz0 hz1 hz2 (.slice none 0 0) [] (by rfl) (Own.nil _) (.slice (some ⟨b, o, none⟩) 0 0) 0 [] (by rfl) (HSn.out _) (by simp) ?_; intro v1 w1 hown1 hg1 hf1; obtain ⟨a1, n1, c1, rfl, HN1⟩ := hown1.shape2; have HO1 := hide hown1; have HG1 := hide (below_grown hg1); have HF1 : Hid (∀ k, (Value.slice a1 n1 c1).ownBlock = some k → X4.heap.size ≤ k) := fun k hk => (hf1 k hk).elim (fun e => by simp [Value.ownBlock] at e) (fun hs => hs); obtain ⟨l0', l1', l2', l3', l4', l5', l6'⟩ := ((HB4.out.below (Below.refl _ _).drew).below HG1.out).cells; have fr' := ((HB4.out.below (Below.refl _ _).drew).below HG1.out).free; obtain ⟨j0', j1', j2', j3', j4', j5', j6'⟩ := ((HJ4.out.below (Below.refl _ _).drew).below HG1.out).cells; clear hown1 hg1 hf1)
    all_goals
      have HBz := hide (((HB4.out.below (Below.refl _ _).drew).below HG1.out).set7 (.int .u8 vk) (.bool vbo) (.int .i64 vn) (.string vt) (.slice vya vy.length vyc) (.slice vla vl.list.length vlc) (.slice vfa vf.list.length vfc))
      have HGz := hide (grown_set7 w1 w.heap.size (.int .u8 vk) (.bool vbo) (.int .i64 vn) (.string vt) (.slice vya vy.length vyc) (.slice vla vl.list.length vlc) (.slice vfa vf.list.length vfc))
      have HFz := hide ((HF4.out.drew.on HG1.out).grown (grown_set7 w1 w.heap.size (.int .u8 vk) (.bool vbo) (.int .i64 vn) (.string vt) (.slice vya vy.length vyc) (.slice vla vl.list.length vlc) (.slice vfa vf.list.length vfc)) (fun x e => by cases e; exact Nat.le_refl _))
      generalize ((((((w1.setCell ⟨w.heap.size, 0, none⟩ (.int .u8 vk)).setCell ⟨w.heap.size, 1, none⟩ (.bool vbo)).setCell ⟨w.heap.size, 2, none⟩ (.int .i64 vn)).setCell ⟨w.heap.size, 3, none⟩ (.string vt)).setCell ⟨w.heap.size, 4, none⟩ (.slice vya vy.length vyc)).setCell ⟨w.heap.size, 5, none⟩ (.slice vla vl.list.length vlc)).setCell ⟨w.heap.size, 6, none⟩ (.slice vfa vf.list.length vfc) = Z at HBz HGz HFz ⊢
      have HOz : Hid (Own Z (.slice a1 n1 c1) []) := HO1.out.of_block (fun k hk => HGz.out.block k (HO1.out.lt hk) (fun e => by simp at e; have := HF1.out k hk; omega))
      have HSz : Hid (Stays w Z (.agg #[.int .u8 vk, .bool vbo, .int .i64 vn, .string vt, .slice vya vy.length vyc, .slice vla vl.list.length vlc, .slice vfa vf.list.length vfc]) c) := stays_wide HS2.out (by simp) (by have h1 := HGz.out.size; have h2 : X4.heap.size ≤ w1.heap.size := HG1.out.size; omega) (fun k h1 h2 => by
        rw [World.size_alloc] at h1
        have h3 : w1.heap[k]? = X4.heap[k]? := HG1.out.block k (by show k < X4.heap.size; omega)
        have h4 : X4.heap.size ≤ w1.heap.size := HG1.out.size
        rw [HGz.out.block k (by omega) (fun e => by simp at e; omega), h3, H24.out.block k h2])
      clear j0 j1 j2 j3 j4 j5 j6 l0 l1 l2 l3 l4 l5 l6 fr l0' l1' l2' l3' l4' l5' l6' fr' j0' j1' j2' j3' j4' j5' j6'
      obtain ⟨z0, z1, z2, z3, z4, z5, z6⟩ := HBz.out.cells
      go_wp2
      refine bodyPost_ret (v := .tuple #[.agg #[.int .u8 vk, .bool vbo, .int .i64 vn, .string vt, .slice vya vy.length vyc, .slice vla vl.list.length vlc, .slice vfa vf.list.length vfc], .slice a1 n1 c1, .int .u16 0]) ?_ rfl ?_
      · simp [results, Try.results7, go_sem, z0, z1, z2, z3, z4, z5, z6]
      · exact ⟨_, _, _, _, rfl, HFz.out.below, by rw [hdn]; exact HOz.out, fun k hk => (by have := HF1.out k hk; omega), HSz.out⟩
  · go_wp2
    go_region_law (refine step_append_src (by rfl) (.const (.slice none 0 0)) (.tmp 23) 22 22 (by rfl) i0 Try.underlying22 hi hz0 hz1 hz2 (.slice none 0 0) [] (by rfl) (Own.nil _) (.slice (some ⟨b, o + cn, none⟩) (bs.length - cn) (cap - cn)) (bs.length - cn) (bs.drop cn) (by rfl) (HSr.out _ BA) (by simp; omega) ?_; intro v1 w1 hown1 hg1 hf1; obtain ⟨a1, n1, c1, rfl, HN1⟩ := hown1.shape2; have HO1 := hide hown1; have HG1 := hide (below_grown hg1); have HF1 : Hid (∀ k, (Value.slice a1 n1 c1).ownBlock = some k → X4.heap.size ≤ k) := fun k hk => (hf1 k hk).elim (fun e => by simp [Value.ownBlock] at e) (fun hs => hs); obtain ⟨l0', l1', l2', l3', l4', l5', l6'⟩ := ((HB4.out.below (Below.refl _ _).drew).below HG1.out).cells; have fr' := ((HB4.out.below (Below.refl _ _).drew).below HG1.out).free; obtain ⟨j0', j1', j2', j3', j4', j5', j6'⟩ := ((HJ4.out.below (Below.refl _ _).drew).below HG1.out).cells; clear hown1 hg1 hf1)
    all_goals
      have HBz := hide (((HB4.out.below (Below.refl _ _).drew).below HG1.out).set7 (.int .u8 vk) (.bool vbo) (.int .i64 vn) (.string vt) (.slice vya vy.length vyc) (.slice vla vl.list.length vlc) (.slice vfa vf.list.length vfc))
      have HGz := hide (grown_set7 w1 w.heap.size (.int .u8 vk) (.bool vbo) (.int .i64 vn) (.string vt) (.slice vya vy.length vyc) (.slice vla vl.list.length vlc) (.slice vfa vf.list.length vfc))
      have HFz := hide ((HF4.out.drew.on HG1.out).grown (grown_set7 w1 w.heap.size (.int .u8 vk) (.bool vbo) (.int .i64 vn) (.string vt) (.slice vya vy.length vyc) (.slice vla vl.list.length vlc) (.slice vfa vf.list.length vfc)) (fun x e => by cases e; exact Nat.le_refl _))
      generalize ((((((w1.setCell ⟨w.heap.size, 0, none⟩ (.int .u8 vk)).setCell ⟨w.heap.size, 1, none⟩ (.bool vbo)).setCell ⟨w.heap.size, 2, none⟩ (.int .i64 vn)).setCell ⟨w.heap.size, 3, none⟩ (.string vt)).setCell ⟨w.heap.size, 4, none⟩ (.slice vya vy.length vyc)).setCell ⟨w.heap.size, 5, none⟩ (.slice vla vl.list.length vlc)).setCell ⟨w.heap.size, 6, none⟩ (.slice vfa vf.list.length vfc) = Z at HBz HGz HFz ⊢
      have HOz : Hid (Own Z (.slice a1 n1 c1) (bs.drop cn)) := HO1.out.of_block (fun k hk => HGz.out.block k (HO1.out.lt hk) (fun e => by simp at e; have := HF1.out k hk; omega))
      have HSz : Hid (Stays w Z (.agg #[.int .u8 vk, .bool vbo, .int .i64 vn, .string vt, .slice vya vy.length vyc, .slice vla vl.list.length vlc, .slice vfa vf.list.length vfc]) c) := stays_wide HS2.out (by simp) (by have h1 := HGz.out.size; have h2 : X4.heap.size ≤ w1.heap.size := HG1.out.size; omega) (fun k h1 h2 => by
        rw [World.size_alloc] at h1
        have h3 : w1.heap[k]? = X4.heap[k]? := HG1.out.block k (by show k < X4.heap.size; omega)
        have h4 : X4.heap.size ≤ w1.heap.size := HG1.out.size
        rw [HGz.out.block k (by omega) (fun e => by simp at e; omega), h3, H24.out.block k h2])
      clear j0 j1 j2 j3 j4 j5 j6 l0 l1 l2 l3 l4 l5 l6 fr l0' l1' l2' l3' l4' l5' l6' fr' j0' j1' j2' j3' j4' j5' j6'
      obtain ⟨z0, z1, z2, z3, z4, z5, z6⟩ := HBz.out.cells
      go_wp2
      refine bodyPost_ret (v := .tuple #[.agg #[.int .u8 vk, .bool vbo, .int .i64 vn, .string vt, .slice vya vy.length vyc, .slice vla vl.list.length vlc, .slice vfa vf.list.length vfc], .slice a1 n1 c1, .int .u16 0]) ?_ rfl ?_
      · simp [results, Try.results7, go_sem, z0, z1, z2, z3, z4, z5, z6]
      · exact ⟨_, _, _, _, rfl, HFz.out.below, HOz.out, fun k hk => (by have := HF1.out k hk; omega), HSz.out⟩
end Go.Proofs.Ytegoeaofjnpehab
/- One, where it takes a value: its bytes lie in a row of their own. -/
namespace Go.Proofs.Ytegoeaofjnpehab
open Go.RowKit
set_option linter.unusedVariables false

def OneOwn (v : T) (m : Int) (w : World) (e : Ending) (w' : World) : Prop :=
  (∃ a c, e = .returned (.tuple #[.slice a v.enc.length c, .int .u16 0]) ∧ Own w' (.slice a v.enc.length c) (v.enc.map (tn m)) ∧ ∀ k, (Value.slice a v.enc.length c).ownBlock = some k → w.heap.size ≤ k) ∧ Below w.heap.size w w'
theorem OneOwn.good {v : T} {m : Int} {w w' : World} {a : Option Addr} {c : Nat} (h : oneE v = 0) (hr : Own w' (.slice a v.enc.length c) (v.enc.map (tn m))) (hn : ∀ k, (Value.slice a v.enc.length c).ownBlock = some k → w.heap.size ≤ k) (hb : Below w.heap.size w w') : OneOwn v m w (.returned (.tuple #[.slice a v.enc.length c, .int .u16 0])) w' := ⟨⟨a, c, rfl, hr, hn⟩, hb⟩
set_option maxHeartbeats 3200000 in
set_option maxRecDepth 1000000 in
theorem one_own (d : Bool) (n₀ : Nat) (v : T) (w : World) (hm : v.Mem n₀ w) (hn : n₀ ≤ w.heap.size) (hT : v.Tame) (hE : v.enc.length ≤ 9999999) (h0 : oneE v = 0) :
    Calls Try.prog 12 #[v.val, .bool d] w fun e w' => OneOwn v (mk d) w e w' ∧ True := by
  have hmd : 0 ≤ mk d ∧ mk d ≤ 255 := by unfold mk; split <;> omega
  have HT := hide (turning_any d)
  have HCk := hide (fun W (hW : Below n₀ w W) (hs : n₀ ≤ W.heap.size) => check_all n₀ v W (hm.on hW) hs hT)
  have HDc := hide (fun W (hW : Below n₀ w W) (hs : n₀ ≤ W.heap.size) => hasdoc_gen n₀ v.sz v (Nat.le_refl _) W (hm.on hW) hs)
  have HWr := hide (fun W po pt q (hW : Below n₀ w W) (hs : n₀ ≤ W.heap.size) (hp : PutS W po pt q (mk d) []) (hN : New n₀ W po) => write_gen n₀ po pt q (mk d) v.sz v (Nat.le_refl _) W [] hp (hm.on hW) hN hs (by simp; omega))
  have HCl := hide (ckE_le v)
  have HOe : Hid (oneE v = if ckE v = 0 then (if v.hd then 41 else if 160 < v.enc.length then 42 else 0) else 40) := rfl
  have HBad : Hid (∀ (w' : World) (x : Nat), oneE v = x → ¬ x = 0 → Below w.heap.size w w' → OneOwn v (mk d) w (.returned (.tuple #[.slice none 0 0, .int .u16 (x : Int)])) w') := fun w' x h hx _ => absurd (h.symm.trans h0) hx
  have HGood := hide (fun w' a c => OneOwn.good (v := v) (m := mk d) (w := w) (w' := w') (a := a) (c := c))
  clear h0
  generalize OneOwn v (mk d) w = Post at *
  generalize hO : oneE v = oe at *
  generalize v.hd = hd at *
  generalize ckE v = ck at *
  have HEl := hide hE
  clear hE hT hm hO
  generalize v.enc = ys at *
  cases v with
  | mk k bo n t ya yc y la lc l fa fc f =>
  simp only [T.val] at *
  have HB0 := hide (Box7.new w (.int .u8 k) (.bool bo) (.int .i64 n) (.string t) (.slice ya y.length yc) (.slice la l.list.length lc) (.slice fa f.list.length fc))
  have HF0 := hide ((Fr.refl w).alloc (.cells #[.int .u8 k, .bool bo, .int .i64 n, .string t, .slice ya y.length yc, .slice la l.list.length lc, .slice fa f.list.length fc] 32))
  generalize mk d = m at *
  go_enter Try.func12, Try.ntmps12
  go_wp2_with fail
  refine (HCk.out _ (HF0.out.below.mono hn) (by have := HF0.out.size; omega)).mono ?_
  rintro e W1 ⟨rfl, hb⟩
  have HB1 := hide (HB0.out.below hb)
  have HF1 := hide (HF0.out.on hb)
  clear hb HB0 HF0
  generalize hbw : w.heap.size = b at *
  have HBW := hide hbw
  clear hbw
  obtain ⟨k0, k1, k2, k3, k4, k5, k6⟩ := HB1.out.cells
  by_cases hck : ck = 0
  · subst hck
    go_wp2_with fail
    refine (HDc.out _ (HF1.out.below.mono hn) (by have := HF1.out.size; omega)).mono ?_
    rintro e W2 ⟨rfl, hb⟩
    have HB2 := hide (HB1.out.below hb)
    have HF2 := hide (HF1.out.on hb)
    clear hb HB1 HF1 k0 k1 k2 k3 k4 k5 k6
    cases hd
    · go_wp2_with fail
      refine (HT.out _).mono ?_
      rintro e W3 ⟨rfl, rfl⟩
      have HS := hide (PutS.start W2 m hmd)
      have HF3 := hide (((HF2.out.alloc (.cells #[.slice none 0 0] 22)).alloc (.cells #[.int .u8 m] 5)).alloc (.cells #[.func (.func 36) #[] #[.pointer (some ⟨W2.heap.size + 1, 0, none⟩)]] 55))
      have HB3 := hide (((HB2.out.below (below_alloc _ (.cells #[.slice none 0 0] 22))).below (below_alloc _ (.cells #[.int .u8 m] 5))).below (below_alloc _ (.cells #[.func (.func 36) #[] #[.pointer (some ⟨W2.heap.size + 1, 0, none⟩)]] 55)))
      obtain ⟨k0, k1, k2, k3, k4, k5, k6⟩ := HB3.out.cells
      go_wp2_with fail
      refine (HWr.out _ _ _ _ (HF3.out.below.mono hn) (by have := HF3.out.size; omega) HS.out (fun k hk => by have := start_foot W2 m k hk; have := HF2.out.size; omega)).mono ?_
      rintro e W4 ⟨rfl, hp, ho⟩
      have HF4 : Hid (Fr b w W4) := ⟨HF3.out.below.trans (ho.below (fun k hk => by have := start_foot W2 m k hk; have := HF2.out.size; omega) HF3.out.size), Nat.le_trans HF3.out.size ho.size⟩
      rw [List.nil_append] at hp
      obtain ⟨va, hcell, hown, hap⟩ := hp.wr
      obtain ⟨a1, c1, rfl, hle, hmx, hnn, hrow, _⟩ := hown.shape
      have g0 := cell_of_one hcell
      have HNw : Hid (∀ k, (Value.slice a1 (List.map (tn m) ys).length c1).ownBlock = some k → b ≤ k) := fun k hk => by
        rcases ho.foot k (.inr ⟨_, hcell, hk⟩) with h | h
        · have := start_foot W2 m k h; have := HF2.out.size; omega
        · have := HF3.out.size; omega
      have HRw := hide hown
      have HNn := hide hnn
      rw [List.length_map] at g0 HNn HNw HRw
      clear hcell hown hap hp ho hrow hnn k0 k1 k2 k3 k4 k5 k6
      by_cases hlen : 160 < ys.length
      · have hld : decide ((160 : Int) < (ys.length : Int)) = true := by simp; omega
        have HR : Hid (oe = 42) := by rw [Hid, HOe.out]; simp [hlen]
        clear hlen
        go_wp2
        go_ret2
        exact ⟨HBad.out _ 42 HR.out (by omega) HF4.out.below, trivial⟩
      · have hld : decide ((160 : Int) < (ys.length : Int)) = false := by simp; omega
        have HR : Hid (oe = 0) := by rw [Hid, HOe.out]; simp [hlen]
        clear hlen
        go_wp2
        go_ret2
        exact ⟨HGood.out _ a1 c1 HR.out HRw.out HNw.out HF4.out.below, trivial⟩
    · have HR : Hid (oe = 41) := by rw [Hid, HOe.out]; simp
      go_wp2
      go_ret2
      exact ⟨HBad.out _ 41 HR.out (by omega) HF2.out.below, trivial⟩
  · have hcb : ((ck : Int) == 0) = false := by simp; omega
    have HR : Hid (oe = 40) := by rw [Hid, HOe.out]; simp [hck]
    clear hck
    go_wp2
    go_ret2
    exact ⟨HBad.out _ 40 HR.out (by omega) HF1.out.below, trivial⟩
end Go.Proofs.Ytegoeaofjnpehab
/- Mathematics of KeyTakes: what is read is written as it was. -/
namespace Go.Proofs.Ytegoeaofjnpehab
open Go.RowKit
set_option linter.unusedVariables false

mutual
theorem T.enc_er : ∀ v : T, v.er.enc = v.enc
  | .mk k bo n t ya yc y la lc l fa fc f => by simp only [T.er, T.enc, TL.enc_er l]
theorem TL.enc_er : ∀ l : TL, l.er.enc = l.enc
  | .nil => rfl
  | .cons v r => by simp only [TL.er, TL.enc, T.enc_er v, TL.enc_er r]
end
mutual
theorem T.sz_er : ∀ v : T, v.er.sz = v.sz
  | .mk k bo n t ya yc y la lc l fa fc f => by simp only [T.er, T.sz, TL.sz_er l, FL.sz_er f]
theorem TL.sz_er : ∀ l : TL, l.er.sz = l.sz
  | .nil => rfl
  | .cons v r => by simp only [TL.er, TL.sz, T.sz_er v, TL.sz_er r]
theorem FL.sz_er : ∀ l : FL, l.er.sz = l.sz
  | .nil => rfl
  | .cons s v r => by simp only [FL.er, FL.sz, T.sz_er v, FL.sz_er r]
end
theorem FL.er_nil (f : FL) : f.er.list = [] ↔ f.list = [] := by cases f <;> simp [FL.er, FL.list]
theorem TL.er_nil (l : TL) : l.er.list = [] ↔ l.list = [] := by cases l <;> simp [TL.er, TL.list]
mutual
theorem T.gk_er : ∀ v : T, v.er.gk ↔ v.gk
  | .mk k bo n t ya yc y la lc l fa fc f => by simp only [T.er, T.gk, FL.er_nil, TL.er_nil, TL.gk_er l]
theorem TL.gk_er : ∀ l : TL, l.er.gk ↔ l.gk
  | .nil => Iff.rfl
  | .cons v r => by simp only [TL.er, TL.gk, T.gk_er v, TL.gk_er r]
end
mutual
theorem T.hd_gk : ∀ v : T, v.gk → v.hd = false
  | .mk k bo n t ya yc y la lc l fa fc f, h => by
    have h1 := h.1.1
    have h2 := TL.hd_gk l h.2.2
    simp only [T.hd, Bool.or_eq_false_iff, decide_eq_false_iff_not]
    exact ⟨by omega, h2⟩
theorem TL.hd_gk : ∀ l : TL, l.gk → l.hd = false
  | .nil, _ => rfl
  | .cons v r, h => by simp only [TL.hd, T.hd_gk v h.1, TL.hd_gk r h.2, Bool.or_false]
end
theorem FineG.er {v c : T} (h : v.er = c.er) (hc : FineG c) : FineG v := by
  have e1 : v.enc = c.enc := by rw [← T.enc_er v, h, T.enc_er]
  have e2 : v.sz = c.sz := by rw [← T.sz_er v, h, T.sz_er]
  have e3 : v.gk := by rw [← T.gk_er v, h, T.gk_er]; exact hc.1
  exact ⟨e3, by rw [ck_of_er h]; exact hc.2.1, by rw [e2]; exact hc.2.2.1, by rw [e1]; exact hc.2.2.2⟩
theorem enc_of_er {v c : T} (h : v.er = c.er) : v.enc = c.enc := by rw [← T.enc_er v, h, T.enc_er]
theorem FineG.one {v : T} (h : FineG v) : oneE v = if 160 < v.enc.length then 42 else 0 := by
  unfold oneE
  rw [h.2.1, T.hd_gk v h.1]
  simp
theorem tupG_er (ds : List Bool) : ∀ (l m : List T) (i : Nat), l.map T.er = m.map T.er → tupG ds i l = tupG ds i m
  | [], [], _, _ => rfl
  | [], _ :: _, _, h => by simp at h
  | _ :: _, [], _, h => by simp at h
  | v :: r, c :: s, i, h => by
    simp only [List.map_cons, List.cons.injEq] at h
    simp only [tupG, enc_of_er h.1, tupG_er ds r s (i + 1) h.2]
theorem fine_all {l m : List T} (h : l.map T.er = m.map T.er) (hm : ∀ c ∈ m, FineG c) : ∀ v ∈ l, FineG v := fun v hv => by
  have h1 : v.er ∈ m.map T.er := by rw [← h]; exact List.mem_map_of_mem hv
  obtain ⟨c, hc, h2⟩ := List.mem_map.1 h1
  exact FineG.er h2.symm (hm c hc)
theorem tupG_len (ds : List Bool) : ∀ (l : List T) (i : Nat) (c : T), c ∈ l → c.enc.length ≤ (tupG ds i l).length
  | [], _, c, h => by simp at h
  | v :: r, i, c, h => by
    simp only [tupG, List.length_append, List.length_map]
    rcases List.mem_cons.1 h with rfl | h
    · omega
    · have := tupG_len ds r (i + 1) c h; omega
theorem tupE_fine : ∀ (l : List T), (∀ v ∈ l, FineG v) → (tupE l = 0 ∧ ∀ v ∈ l, v.enc.length ≤ 160) ∨ (tupE l = 42 ∧ ∃ v ∈ l, 160 < v.enc.length)
  | [], _ => .inl ⟨rfl, fun v h => by simp at h⟩
  | v :: r, h => by
    have h1 := FineG.one (h v (by simp))
    by_cases hb : 160 < v.enc.length
    · rw [if_pos hb] at h1
      exact .inr ⟨by simp [tupE, h1], v, by simp, hb⟩
    · rw [if_neg hb] at h1
      rcases tupE_fine r (fun x hx => h x (by simp [hx])) with ⟨a, b⟩ | ⟨a, x, hx, b⟩
      · exact .inl ⟨by simp [tupE, h1, a], fun x hx => by rcases List.mem_cons.1 hx with rfl | hx; omega; exact b x hx⟩
      · exact .inr ⟨by simp [tupE, h1, a], x, by simp [hx], b⟩
theorem tupB_fine (ds : List Bool) : ∀ (l : List T) (i : Nat), (∀ v ∈ l, FineG v) → (∀ v ∈ l, v.enc.length ≤ 160) → tupB ds i l = tupG ds i l
  | [], _, _, _ => rfl
  | v :: r, i, h, hb => by
    have h1 := FineG.one (h v (by simp))
    rw [if_neg (by have := hb v (by simp); omega)] at h1
    simp only [tupB, tupG, outp, h1, if_true]
    rw [tupB_fine ds r (i + 1) (fun x hx => h x (by simp [hx])) (fun x hx => hb x (by simp [hx]))]
/-- what Encode answers of a tuple that was read. -/
theorem enc_fine (ds : List Bool) (l : List T) (h : ∀ v ∈ l, FineG v) (h4 : l.length ≤ 4) : (encE ds l = 0 ∧ encB ds l = tupG ds 0 l) ∨ (encE ds l = 42 ∧ 160 < (tupG ds 0 l).length) := by
  have h5 : ¬ 4 < l.length := by omega
  rcases tupE_fine l h with ⟨a, b⟩ | ⟨a, x, hx, b⟩
  · have e := tupB_fine ds l 0 h b
    by_cases hb : 160 < (tupB ds 0 l).length
    · exact .inr ⟨by simp [encE, h5, a, hb], by rw [← e]; exact hb⟩
    · have h0 : encE ds l = 0 := by simp [encE, h5, a, hb]
      exact .inl ⟨h0, by simp only [encB, h0, if_true]; exact e⟩
  · have := tupG_len ds l 0 x hx
    exact .inr ⟨by simp [encE, h5, a], by omega⟩
/-- a tuple whose bytes are not none begins with a value. -/
theorem tupG_first (ds : List Bool) (l : List T) (h : ∀ v ∈ l, FineG v) (h0 : tupG ds 0 l ≠ []) : ∃ c rest, FineG c ∧ (tupG ds 0 l).map (tn (mk (ds.getD 0 false))) = c.enc ++ rest := by
  cases l with
  | nil => exact absurd rfl h0
  | cons v r =>
    refine ⟨v, (tupG ds 1 r).map (tn (mk (ds.getD 0 false))), h v (by simp), ?_⟩
    simp only [tupG, List.map_append]
    rw [map_tn_tn _ _ (h v (by simp)).2.2.2]
end Go.Proofs.Ytegoeaofjnpehab
