/- The Go function NodePlaces answers true for every node and key that are handed in, and leaves them as they were: in a branch a key stands below the last entry that is not above it: all entries ahead of that are not above it, all behind are. No condition. -/
import Derived.Test.YtepaohiacfmabaaMU
namespace Go.Proofs.Ytepaohiacfmabaa.Places
open Go.ChangeShapes Go.WideShapes Go.ChangeAt Go.RowKit
set_option linter.unusedVariables false

theorem keys_up {a : List Int} {es : List Ee} (h : keysOk a es = true) : ∀ (j : Nat) (e : Ee), es[j]? = some e → ordI a e.key < 0 ∧ ∀ (i : Nat) (f : Ee), i < j → es[i]? = some f → ordI f.key e.key < 0 := by
  induction es generalizing a with
  | nil => intro j e he; simp at he
  | cons x es ih =>
    simp only [keysOk, Bool.and_eq_true, decide_eq_true_eq] at h
    have hax : ordI a x.key < 0 := by have := ordI_anti a x.key; omega
    intro j e he
    cases j with
    | zero =>
      simp at he
      subst he
      exact ⟨hax, fun i f hi => by omega⟩
    | succ j =>
      have he' : es[j]? = some e := by simpa using he
      obtain ⟨h1, h2⟩ := ih h.2.2 j e he'
      refine ⟨ordI_trans_lt _ _ _ hax (by omega), fun i f hi hf => ?_⟩
      cases i with
      | zero => simp at hf; subst hf; exact h1
      | succ i => exact h2 i f (by omega) (by simpa using hf)
theorem places {xs : List En} {key : List Int} {i : Nat} (hm : mayB false (ers xs) = true) (h : At (pgt key) xs i) :
    1 ≤ i ∧ i ≤ xs.length ∧ ∀ (j : Nat) (x : En), xs[j]? = some x → (ordI x.e.key key ≤ 0 ↔ j ≤ i - 1) := by
  have hup : ∀ (p q : Nat) (x y : En), p < q → xs[p]? = some x → xs[q]? = some y → ordI x.e.key y.e.key < 0 := by
    intro p q x y hpq hx hy
    cases xs with
    | nil => simp at hx
    | cons z zs =>
      simp only [ers, List.map_cons, mayB, Bool.false_eq_true, if_false, Bool.and_eq_true, decide_eq_true_eq] at hm
      have hk := keys_up hm.2.1
      cases q with
      | zero => omega
      | succ q =>
        have hy' : (zs.map En.e)[q]? = some y.e := by simp at hy; simp [hy]
        obtain ⟨h1, h2⟩ := hk q y.e hy'
        cases p with
        | zero =>
          simp at hx
          subst hx
          have : z.e.key = [] := List.eq_nil_of_length_eq_zero hm.1
          rw [this]
          exact h1
        | succ p =>
          have hx' : (zs.map En.e)[p]? = some x.e := by simp at hx; simp [hx]
          exact h2 p x.e (by omega) hx'
  have hne : xs ≠ [] := by intro e; subst e; simp [ers, mayB] at hm
  have h1 : 1 ≤ i := by
    by_cases h0 : i = 0
    · exfalso
      subst h0
      cases xs with
      | nil => exact hne rfl
      | cons z zs =>
        have := h.2.2 z rfl
        simp only [ers, List.map_cons, mayB, Bool.false_eq_true, if_false, Bool.and_eq_true, decide_eq_true_eq] at hm
        have hz : z.e.key = [] := List.eq_nil_of_length_eq_zero hm.1
        rw [hz, pgt] at this
        have h2 := of_decide_eq_true this
        cases key <;> simp [ordI] at h2
    · omega
  refine ⟨h1, h.1, fun j x hx => ?_⟩
  obtain ⟨y, hy⟩ : ∃ y, xs[i - 1]? = some y := ⟨_, List.getElem?_eq_getElem (by have := h.1; omega)⟩
  have hyk : ordI y.e.key key ≤ 0 := by
    have := h.2.1 y (by omega) hy
    rw [pgt] at this
    have := of_decide_eq_false this
    omega
  constructor
  · intro hle
    by_cases hj : j ≤ i - 1
    · exact hj
    · exfalso
      have hil : i < xs.length := by have := (List.getElem?_eq_some_iff.1 hx).1; omega
      obtain ⟨z, hz⟩ : ∃ z, xs[i]? = some z := ⟨_, List.getElem?_eq_getElem hil⟩
      have hzk := h.2.2 z hz
      rw [pgt] at hzk
      have hzk := of_decide_eq_true hzk
      by_cases hji : j = i
      · subst hji; rw [hz] at hx; cases hx; omega
      · have := hup i j z x (by omega) hz hx
        have := ordI_trans_lt _ _ _ this hle
        omega
  · intro hj
    by_cases hji : j = i - 1
    · subst hji; rw [hy] at hx; cases hx; exact hyk
    · have := hup j (i - 1) x y (by omega) hx hy
      have := ordI_trans_lt _ _ _ this hyk
      omega
set_option maxHeartbeats 3200000 in
set_option maxRecDepth 1000000 in
theorem walk (leaf : Bool) (a : Option Addr) (n c : Nat) (xs : List En) (ka : Option Addr) (kn kc : Nat) (key : List Int) (w : World) (h : Ens w a n c xs) (hs : Szd xs) (hk : Inn w ka kn kc key) :
    Calls Try.prog 7 #[.agg #[.bool leaf, .slice a n c], .slice ka kn kc] w fun e w' => e = .returned (.bool true) ∧ Below w.heap.size w w' := by
  have hb0 := heap_alloc_new w (.cells #[.bool leaf, .slice a n c] 24)
  obtain ⟨n0, n1, -⟩ := cells_two hb0
  have HB0 := hide (below_alloc w (.cells #[.bool leaf, .slice a n c] 24))
  have HBk := hide hb0
  have HE := hide (h.below HB0.out)
  have HKey := hide (hk.below HB0.out)
  have HM := hide (much_any leaf a n c xs _ HE.out hs)
  have hkm : kn ≤ 9223372036854775807 := by have := hk.cap; have := hk.max; omega
  have hnl := h.len
  have hmx : n ≤ 9223372036854775807 := by have := h.cap; have := h.max; omega
  clear h hb0 hs hk
  go_enter Try.func7, Try.ntmps7
  go_wp2_with fail
  refine HM.out.mono ?_
  rintro e w2 ⟨b, rfl, hb, hb2⟩
  have HBk2 := hide ((hb2.block _ (lt_of_block HBk.out)).trans HBk.out)
  have HB2 := hide (HB0.out.trans (hb2.mono HB0.out.size))
  have HE2 := hide (HE.out.below hb2)
  have HKey2 := hide (HKey.out.below hb2)
  have HBb := hide hb
  clear hb hb2 HM n0 n1
  cases b with
  | true =>
    go_wp2_with (go_at_call 17; refine (known_any _).mono ?_; rintro e w3 ⟨rfl, hb3⟩)
    go_ret
    exact ⟨rfl, HB2.out.trans (hb3.mono HB2.out.size)⟩
  | false =>
    by_cases hk2 : kn ≤ 20000
    · have d1 : ¬ (20000 : Int) < (kn : Int) := by omega
      have HBd := hide (HBb.out rfl)
      have hn5 : n ≤ 500 := HBd.out.1
      go_wp2_with fail
      refine (known_any _).mono ?_
      rintro e w3 ⟨rfl, hb3⟩
      have HBk3 := hide ((hb3.block _ (lt_of_block HBk2.out)).trans HBk2.out)
      have HB3 := hide (HB2.out.trans (hb3.mono HB2.out.size))
      have HE3 := hide (HE2.out.below hb3)
      have HKey3 := hide (HKey2.out.below hb3)
      obtain ⟨n0, n1, -⟩ := cells_two HBk3.out
      clear hb3 HE2 HKey2 HBk2
      cases leaf with
      | true =>
        go_wp2
        go_ret
        exact ⟨rfl, HB3.out⟩
      | false =>
        have HC := hide (check_any false a n c xs w3 HE3.out (by omega) (by have := HBd.out.2; omega))
        by_cases hch : chk false (ers xs) = 90
        · rw [hch] at HC
          go_wp2_with (go_at_call 11; refine HC.out.mono ?_; rintro e w4 ⟨rfl, hb4⟩)
          go_ret
          exact ⟨rfl, HB3.out.trans (hb4.mono HB3.out.size)⟩
        · have hmay : mayB false (ers xs) = true := by
            unfold chk at hch
            by_cases hm : mayB false (ers xs) = true
            · exact hm
            · rw [if_neg hm] at hch; exact absurd rfl hch
          have dch : (((chk false (ers xs) : Nat) : Int) == 90) = false := by simp; omega
          have HMay := hide hmay
          clear hmay
          go_wp2_with fail
          refine HC.out.mono ?_
          rintro e w4 ⟨rfl, hb4⟩
          have HBk4 := hide ((hb4.block _ (lt_of_block HBk3.out)).trans HBk3.out)
          have HB4 := hide (HB3.out.trans (hb4.mono HB3.out.size))
          have HE4 := hide (HE3.out.below hb4)
          have HKey4 := hide (HKey3.out.below hb4)
          obtain ⟨n0, n1, -⟩ := cells_two HBk4.out
          have HF := hide (find_branch ka kn kc key a n c xs w4 HKey4.out HE4.out (by omega))
          clear hb4 HE3 HKey3 HBk3 HC hch
          go_wp2_with fail
          refine HF.out.mono ?_
          rintro e w5 ⟨i, rfl, hat, hb5⟩
          obtain ⟨hi1, hi2, hpl⟩ := places HMay.out hat
          rw [hnl] at hi2
          have HPl := hide hpl
          have HBk5 := hide ((hb5.block _ (lt_of_block HBk4.out)).trans HBk4.out)
          have HB5 := hide (HB4.out.trans (hb5.mono HB4.out.size))
          have HE5 := hide (HE4.out.below hb5)
          have HKey5 := hide (HKey4.out.below hb5)
          obtain ⟨n0, n1, -⟩ := cells_two HBk5.out
          have hn0 : decide (0 < n) = true := by simp; omega
          rw [hn0]
          clear hb5 HE4 HKey4 HBk4 HF hpl hat hn0 dch
          obtain ⟨K, hK⟩ : ∃ K, K = i - 1 := ⟨_, rfl⟩
          rw [← hK]
          have HKi := hide hK
          have hKn : K < n := by omega
          clear hK
          go_wp2
          clear d1
          generalize decide ((20000 : Int) < (kn : Int)) = B1
          generalize decide ((K : Int) < 0) = B2
          generalize decide (n ≤ K) = B3
          generalize (B2 || B3) = B4
          go_loopw [7] (fun v wr => ∃ j : Nat, j ≤ n ∧ v = .int .i64 (j : Int) ∧ Below w5.heap.size w5 wr) (fun v _ => n - (intOf v).toNat)
          case atStart => exact ⟨0, Nat.zero_le _, rfl, Below.refl _ _⟩
          case round =>
            obtain ⟨j, hj, rfl, hbl⟩ := hrel
            have HBl := hide hbl
            obtain ⟨m0, m1, -⟩ := cells_two ((hbl.block _ (lt_of_block HBk5.out)).trans HBk5.out)
            by_cases hlt : j < n
            · obtain ⟨x, hx, hok⟩ := (HE5.out.below hbl).at hlt
              obtain ⟨b, off, rfl, hbs, c0, c1, c2, c3⟩ := (HE5.out.below hbl).cells hx
              have hky := HKey5.out.below hbl
              have tk : ∀ q, (convert 27 9 (.slice ka kn kc)).run Try.prog (wr.drewN q) = .ok (.string (bk key)) (wr.drewN q) := fun q => text_inn (hky.below (below_drewN (Below.refl _ _) q))
              have tx : ∀ q, (convert 27 9 (.slice x.ka x.e.key.length x.kc)).run Try.prog (wr.drewN q) = .ok (.string (bk x.e.key)) (wr.drewN q) := fun q => text_inn (hok.key.below (below_drewN (Below.refl _ _) q))
              have hl := text_less x.e.key key hok.key.byts hky.byts
              have hg := text_less key x.e.key hky.byts hok.key.byts
              have he := text_eq x.e.key key hok.key.byts hky.byts
              have hiff := HPl.out j x hx
              rw [← HKi.out] at hiff
              have han := ordI_anti x.e.key key
              have hez : x.e.key = key ↔ ordI x.e.key key = 0 := ⟨fun e => by rw [e]; exact ordI_self _, ordI_zero _ _⟩
              have dj : (j : Int) < (n : Int) := by omega
              clear hok hky hx hbl
              by_cases hjk : j ≤ K
              · have hle := hiff.2 hjk
                have dk : decide ((j : Int) ≤ (K : Int)) = true := by simp; omega
                have hg' : Op.bytesLess (bk key).toList (bk x.e.key).toList = false := by rw [hg]; simp; omega
                have dk' : (j : Int) ≤ (K : Int) := by omega
                by_cases h0 : ordI x.e.key key = 0
                · have hl' : Op.bytesLess (bk x.e.key).toList (bk key).toList = false := by rw [hl]; simp; omega
                  have he' : ((bk x.e.key).toList == (bk key).toList) = true := by rw [he]; simp; exact hez.2 h0
                  clear hl hg he hiff han hez hle h0 hjk
                  go_wp2
                  go_quiet (fail)
                  go_wp2
                  go_roundw
                  case rel => exact ⟨j + 1, by omega, by go_num, below_drewN HBl.out _⟩
                  case measure => simp [intOf]; omega
                · have hl' : Op.bytesLess (bk x.e.key).toList (bk key).toList = true := by rw [hl]; simp; omega
                  have he' : ((bk x.e.key).toList == (bk key).toList) = false := by rw [he]; simp; intro e; exact h0 (hez.1 e)
                  clear hl hg he hiff han hez hle h0 hjk
                  go_wp2
                  go_quiet (fail)
                  go_wp2
                  go_roundw
                  case rel => exact ⟨j + 1, by omega, by go_num, below_drewN HBl.out _⟩
                  case measure => simp [intOf]; omega
              · have hgt : 0 < ordI x.e.key key := by
                  by_cases h0 : ordI x.e.key key ≤ 0
                  · exact absurd (hiff.1 h0) hjk
                  · omega
                have dk' : ¬ (j : Int) ≤ (K : Int) := by omega
                have hg' : Op.bytesLess (bk key).toList (bk x.e.key).toList = true := by rw [hg]; simp; omega
                have hl' : Op.bytesLess (bk x.e.key).toList (bk key).toList = false := by rw [hl]; simp; omega
                have he' : ((bk x.e.key).toList == (bk key).toList) = false := by rw [he]; simp; intro e; have := hez.1 e; omega
                clear hl hg he hiff han hez hgt hjk
                go_wp2
                go_quiet (fail)
                go_wp2
                go_roundw
                case rel => exact ⟨j + 1, by omega, by go_num, below_drewN HBl.out _⟩
                case measure => simp [intOf]; omega
            · go_wp2
              go_ret
              exact ⟨rfl, HB5.out.trans (HBl.out.mono HB5.out.size)⟩
    · have d1 : (20000 : Int) < (kn : Int) := by omega
      go_wp2_with (go_at_call 17; refine (known_any _).mono ?_; rintro e w3 ⟨rfl, hb3⟩)
      go_ret
      exact ⟨rfl, HB2.out.trans (hb3.mono HB2.out.size)⟩

set_option maxHeartbeats 1600000 in
set_option maxRecDepth 100000 in
theorem lifted (os : Os) (started : os.Started) (H : Type) (enc : TypeId × Value → H) :
    ReturnsInHanded {} Try.checked os 7 .any (Rows.nodePlacesSpec.pre6 enc Try.prog Try.f7 Rows.nodePlacesRow.domain false) (Rows.nodePlacesSpec.post enc Try.prog Try.f7 false true false false) := by
  refine returnsInHanded_of_change_sized (C := Try.checked) own started (by kernel_rfl) Try.func7
    (ChangeSpec.witness6 (enc := enc) (C := Try.checked) false ⟨#[], #[.agg #[.bool false, .slice none 0 0], .slice none 0 0], []⟩ 8 (by kernel_rfl) (by kernel_rfl) (by kernel_rfl) (by kernel_rfl)) ?_
  intro W base args ds gs before hval0 hW hcnd hsz0 _
  have hval : ∀ (j : Nat) t v, Try.f7.params[j]? = some t → args[j]? = some v → Value.okWide Try.prog W .any base t v := hval0
  have hsz : (DataW.weightsEach Try.prog (Try.f7.params.toList ++ Rows.nodePlacesSpec.plain.varTypes Try.prog) (ds ++ gs)).all (· ≤ reachBytes) = true := hsz0
  have hW' := hW
  obtain ⟨p, q, hA0, hV, rfl, hfz, hnd⟩ := hW
  have hA : DataW.TrodAll enc Try.prog W 0 (fun _ => true) true Try.f7.params.toList args.toList ds p := hA0
  rw [Try.params7] at hA hval hsz
  obtain ⟨v0, vs0, d0, ds0, p0, q0, hargs, rfl, rfl, h0, r0⟩ := trodAll_cons hA
  obtain ⟨v1, vs1, d1, ds1, p1, q1, rfl, rfl, rfl, h1, r1⟩ := trodAll_cons r0
  obtain ⟨rfl, rfl, rfl⟩ := trodAll_nil r1
  obtain rfl : args = #[v0, v1] := by cases args; simp_all
  obtain ⟨rfl, rfl⟩ := trodVars_none hV
  have k0 := h0
  have lt0 : ∀ x ∈ p0, x.block < W.heap.size := by obtain ⟨m, hm⟩ := k0; exact DataW.trod_lt m _ _ _ hm
  have s0 : (d0.weights Try.prog 24).all (· ≤ reachBytes) = true := List.all_eq_true.2 fun n hn => List.all_eq_true.1 hsz n (List.mem_append.2 (.inl hn))
  obtain ⟨leaf0, a0, len0, cap0, xs0, rfl, w0, z0⟩ := node_open (hval 0 24 v0 rfl rfl) h0 s0
  have k1 := h1
  have lt1 : ∀ x ∈ p1, x.block < W.heap.size := by obtain ⟨m, hm⟩ := k1; exact DataW.trod_lt m _ _ _ hm
  have s1 : (d1.weights Try.prog 27).all (· ≤ reachBytes) = true := List.all_eq_true.2 fun n hn => List.all_eq_true.1 hsz n (List.mem_append.2 (.inr (List.mem_append.2 (.inl hn))))
  obtain ⟨a1, len1, cap1, rfl⟩ := okWide_slice Try.underlying27 (hval 1 27 v1 rfl rfl)
  obtain ⟨z1, w1⟩ : ∃ zs, Inn W a1 len1 cap1 zs := by
    obtain ⟨fuel, hf⟩ := h1
    obtain ⟨a', c', zs, e, hin, -⟩ := one_bytes (n := fuel) (y := (d1, p1)) (by simpa [Value.cells] using hf)
    cases e
    exact ⟨zs, hin⟩
  clear hA0 hval0
  have hwk := walk leaf0 a0 len0 cap0 xs0 a1 len1 cap1 z1 W w0 z0 w1
  refine hwk.mono fun e W' ⟨he, bel⟩ => ?_
  subst he
  exact ⟨_, rfl, _, _, _, [], _, [], hW', trodAll_mk1 (shut_bool Try.underlying4 _), (trodAll_cons_mk (Below.trod laidOut (by kernel_rfl) (of_decide_eq_true (by kernel_rfl)) k0 bel lt0) (trodAll_cons_mk (Below.trod laidOut (by kernel_rfl) (of_decide_eq_true (by kernel_rfl)) k1 bel lt1) trodAll_mk0)), rfl, bel.frame _, fun h => by cases h⟩

theorem over : Rows.nodePlacesRow.holds Try.pinned (OpenSpec.ofChange Rows.nodePlacesSpec) :=
  OpenClaim.holds_of_wide 7 Try.f7 rfl rfl rfl rfl rfl rfl rfl ⟨rfl, rfl, rfl, rfl, rfl⟩ rfl rfl rfl rfl rfl (by kernel_rfl) Try.func7 (by kernel_rfl)
    (of_decide_eq_true (by kernel_rfl)) (by unfold Func.isWrapper; first | (rw [if_pos (by decide +kernel)]; kernel_rfl) | (rw [if_neg (by decide +kernel)]; exact ⟨rfl, rfl⟩))
    (fun os started H enc _ => lifted os started H enc)

end Go.Proofs.Ytepaohiacfmabaa.Places
namespace Go.Proofs.Ytepaohiacfmabaa
theorem nodePlaces_holds : Rows.NodePlacesSaid := Places.over
#print axioms nodePlaces_holds
end Go.Proofs.Ytepaohiacfmabaa
