/- ReadsTurns: the walk. -/
import Derived.Test.YtpoanlbjhhlagaaTW
namespace Go.Proofs.Ytpoanlbjhhlagaa
open Go.RowKit Go.Maps
set_option linter.unusedVariables false

set_option maxHeartbeats 12800000 in
set_option maxRecDepth 1000000 in
theorem turns_walk (ka : Option Addr) (kn kc : Nat) (ks : List Ky) (la : Option Addr) (ln lc : Nat) (xs : List En) (turn : Int) (w : World) (hK : Kys w ka kn kc ks) (hL : Ens w la ln lc xs) (sk : Szk ks) (sl : Szs xs) (ht : -9223372036854775808 ≤ turn ∧ turn ≤ 9223372036854775807) :
    Calls Try.prog 5 #[.slice ka kn kc, .slice la ln lc, .int .i64 turn] w fun e w' => e = .returned (.bool true) ∧ Below w.heap.size w w' := by
  have HK := hide hK
  have HL := hide hL
  have HM1 := hide (many_any ka kn kc ks w hK sk)
  have SL := hide sl
  have hkl := hK.len
  have hll := hL.len
  clear hK hL sk sl
  go_enter Try.func5, Try.ntmps5
  go_wp2_with fail
  refine HM1.out.mono ?_
  rintro e w1 ⟨hmu, hb1⟩
  have HB1 := hide hb1
  have HM2 := hide (much_any la ln lc xs w1 (HL.out.below hb1) SL.out)
  clear hb1 HM1
  rcases hmu with rfl | ⟨rfl, hk3, hkb⟩
  · go_wp2
    go_ret
    exact ⟨rfl, HB1.out⟩
  go_wp2_with fail
  refine HM2.out.mono ?_
  rintro e w2 ⟨hmu, hb2⟩
  have HB2 := hide (HB1.out.trans (hb2.mono HB1.out.size))
  clear hb2 HM2
  rcases hmu with rfl | ⟨rfl, hl3, hlb⟩
  · go_wp2
    go_ret
    exact ⟨rfl, HB2.out⟩
  have HK2 := hide (HK.out.below HB2.out)
  have HL2 := hide (HL.out.below HB2.out)
  rw [hkl] at hk3
  rw [hll] at hl3
  have HLb := hide hlb
  have HKb := hide hkb
  have HFi := hide (filled_any HK2.out HL2.out hk3 hl3 hkb hlb)
  clear hkb hlb
  go_wp2_with fail
  refine HFi.out.mono ?_
  rintro e w3 ⟨i, p, pr, rfl, hi3, hki, hli, hfs, hb3⟩
  have HFs := hide hfs
  have HB3 := hide hb3
  have HNw := hide (new_any w3)
  clear hfs hb3 HFi
  go_wp2_with fail
  refine HNw.out.mono ?_
  rintro e w4 ⟨rfl, rfl⟩
  obtain ⟨q, hq⟩ : ∃ q, q = w3.heap.size := ⟨_, rfl⟩
  obtain ⟨w4, hw4⟩ : ∃ w4, w4 = w3.alloc (.cells #[.slice none 0 0, .int .i64 0] 79) := ⟨_, rfl⟩
  have htw : Tw w4 w2.heap.size p q (flk ks xs i) [] := by rw [hw4, hq]; exact Tw.new HFs.out
  have HTw := hide htw
  have HB4 : Hid (Below w2.heap.size w2 w4) := hide (by rw [hw4]; exact HB3.out.alloc HB3.out.size _)
  have HKn := hide (known_any w4)
  rw [← hq, ← hw4]
  have hlen : Hid ((flk ks xs i).length ≤ 600) := hide (by have := flk_len ks xs i; omega)
  clear htw hq hw4 HNw HFs HB3
  go_wp2_with fail
  refine HKn.out.mono ?_
  rintro e w5 ⟨rfl, hb5⟩
  have HTw5 := hide (HTw.out.below hb5)
  have HB5 := hide (HB4.out.trans (hb5.mono HB4.out.size))
  clear hb5 HKn HTw HB4
  have e1 : IntKind.i64.wrap ((ln : Int) - 1) = (ln : Int) - 1 := by rw [IntKind.wrap_i64] <;> omega
  have e2 : IntKind.i64.wrap ((kn : Int) - 1) = (kn : Int) - 1 := by rw [IntKind.wrap_i64] <;> omega
  go_wp2
  go_loopw [11] (fun vi wr => ∃ (j : Nat) (Lt : List Ee), j ≤ ln ∧ vi = .int .i64 ((j : Int) - 1) ∧ Lt.length ≤ ln - j ∧ Hid (∀ k, U Lt k ↔ Ps (xs.drop j) k) ∧ Tw wr w2.heap.size p q (flk ks xs i) Lt ∧ Below w2.heap.size w2 wr) (fun vi _ => (intOf vi + 1).toNat)
  case atStart => exact ⟨ln, [], Nat.le_refl _, rfl, by simp, hide fun k => by rw [List.drop_eq_nil_of_le (by omega)]; simp [U, Ps], HTw5.out, HB5.out⟩
  case round =>
    obtain ⟨j, Lt, hj, rfl, hlt, hU, htw, hb⟩ := hrel
    have HTj := hide htw
    have HBj := hide hb
    clear htw hb
    cases j with
    | zero =>
      have ez : ((0 : Nat) : Int) - 1 = -1 := by omega
      have HU0 : Hid (∀ k, U Lt k ↔ Ps xs k) := hide fun k => by rw [hU.out]; simp
      have hlt0 : Lt.length ≤ ln := by omega
      rw [ez]
      clear hU ez
      go_wp2
      go_loopw [12] (fun vi wr' => ∃ (j : Nat) (Lk : List Ee), j ≤ kn ∧ vi = .int .i64 ((j : Int) - 1) ∧ Lk.length ≤ ln + (kn - j) ∧ Hid (∀ k, U Lk k ↔ Ps xs k ∨ Pk (ks.drop j) k) ∧ Tw wr' w2.heap.size p q (flk ks xs i) Lk ∧ Below w2.heap.size w2 wr') (fun vi _ => (intOf vi + 1).toNat)
      case atStart => exact ⟨kn, Lt, Nat.le_refl _, rfl, by omega, hide fun k => by rw [HU0.out, List.drop_eq_nil_of_le (by omega)]; simp [Pk], HTj.out, HBj.out⟩
      case round =>
        obtain ⟨j, Lk, hj', rfl, hlk, hU, htw, hb⟩ := hrel
        have HTk := hide htw
        have HBk := hide hb
        clear htw hb
        cases j with
        | zero =>
          have ez : ((0 : Nat) : Int) - 1 = -1 := by omega
          have HU9 : Hid (∀ k, U Lk k ↔ Ps xs k ∨ Pk ks k) := hide fun k => by rw [hU.out]; simp
          have hl9 : Lk.length ≤ 1000 := by omega
          have HT9 := HTk
          have HB9 := HBk
          rw [ez]
          clear hU ez
          by_cases g1 : (0 : Int) < (ln : Int)
          · by_cases g2 : (0 : Int) ≤ turn
            · have g3 : ¬ ((ln : Int) = 0) := by omega
              have n1 := Int.emod_lt_of_pos turn g1
              have n2 := Int.emod_nonneg turn g3
              obtain ⟨j, hj⟩ : ∃ j : Nat, turn % (ln : Int) = (j : Int) := ⟨(turn % (ln : Int)).toNat, by omega⟩
              have hjn : j < ln := by omega
              have f1 : (j : Int) < (ln : Int) := by omega
              have f2 : (0 : Int) ≤ (j : Int) := by omega
              clear n1 n2
              obtain ⟨x, hx, hok⟩ := (HL2.out.below HBk.out).at hjn
              obtain ⟨b, off, rfl, hbs, c0, c1, c2⟩ := (HL2.out.below HBk.out).cells hx
              have hlx := HLb.out x (List.mem_of_getElem? hx)
              have hlen' := hlen.out
              have HSp := hide (HTk.out.t_on fun O E h => span_any h (by omega) x hok hlx)
              have HU8 : Hid (∀ k, U (Lk ++ sps x.e) k ↔ Ps xs k ∨ Pk ks k) := hide fun k => by
                rw [U_app, HU9.out]
                constructor
                · rintro (h | h)
                  · exact h
                  · exact .inl ⟨x, List.mem_of_getElem? hx, h⟩
                · exact .inl
              have hl8 : (Lk ++ sps x.e).length ≤ 1000 := by have := sps_len x.e; simp; omega
              clear hx hok hlen' HU9 HT9 HB9 hl9
              go_wp2_with fail
              refine HSp.out.mono ?_
              rintro e w6 ⟨rfl, htw6, hb6⟩
              have HT9 := hide htw6
              have HB9 := hide (HBk.out.trans hb6)
              have HU9 := HU8
              have hl9 := hl8
              clear htw6 hb6 HTk HBk HU8
              go_wp2_with fail
              refine (HT9.out.all_s (by have := hlen.out; omega)).mono ?_
              rintro e w7 ⟨a, c, ys, rfl, hta, hb7⟩
              have HTa := hide hta
              have HB7 := hide (HB9.out.trans hb7)
              have hyn : ys.length ≤ 1000000 := by
                have hq := hlen.out
                obtain ⟨_, _, _, _, _, _, _, h, _⟩ := hta
                omega
              clear hta hb7
              go_wp2_with fail
              refine (HTa.out.all_t hl9 fun k => by rw [flk_all (by omega) (by omega)]; exact (HU9.out k).symm).mono ?_
              rintro e w8 ⟨a', c', zs, rfl, hy, hz, hyz, hb8⟩
              have HY := hide hy
              have HZ := hide hz
              have hzl : zs.length = ys.length := by have := congrArg List.length hyz; simp [ers] at this; omega
              rw [hzl] at hz ⊢
              have HSy := hide (sames_yes _ _ _ _ _ _ _ _ hy hz hyz hyn)
              have HB8 := hide (HB7.out.trans hb8)
              clear hy hz hyz hb8
              go_wp2_with fail
              refine HSy.out.mono ?_
              rintro e w9 ⟨rfl, hb9⟩
              have HB0 := hide (HB8.out.trans (hb9.mono HB8.out.size))
              clear hb9
              go_wp2
              go_ret
              exact ⟨rfl, HB2.out.trans (HB0.out.mono HB2.out.size)⟩
            · clear HTk HBk
              go_wp2_with fail
              refine (HT9.out.all_s (by have := hlen.out; omega)).mono ?_
              rintro e w7 ⟨a, c, ys, rfl, hta, hb7⟩
              have HTa := hide hta
              have HB7 := hide (HB9.out.trans hb7)
              have hyn : ys.length ≤ 1000000 := by
                have hq := hlen.out
                obtain ⟨_, _, _, _, _, _, _, h, _⟩ := hta
                omega
              clear hta hb7
              go_wp2_with fail
              refine (HTa.out.all_t hl9 fun k => by rw [flk_all (by omega) (by omega)]; exact (HU9.out k).symm).mono ?_
              rintro e w8 ⟨a', c', zs, rfl, hy, hz, hyz, hb8⟩
              have HY := hide hy
              have HZ := hide hz
              have hzl : zs.length = ys.length := by have := congrArg List.length hyz; simp [ers] at this; omega
              rw [hzl] at hz ⊢
              have HSy := hide (sames_yes _ _ _ _ _ _ _ _ hy hz hyz hyn)
              have HB8 := hide (HB7.out.trans hb8)
              clear hy hz hyz hb8
              go_wp2_with fail
              refine HSy.out.mono ?_
              rintro e w9 ⟨rfl, hb9⟩
              have HB0 := hide (HB8.out.trans (hb9.mono HB8.out.size))
              clear hb9
              go_wp2
              go_ret
              exact ⟨rfl, HB2.out.trans (HB0.out.mono HB2.out.size)⟩
          · clear HTk HBk
            go_wp2_with fail
            refine (HT9.out.all_s (by have := hlen.out; omega)).mono ?_
            rintro e w7 ⟨a, c, ys, rfl, hta, hb7⟩
            have HTa := hide hta
            have HB7 := hide (HB9.out.trans hb7)
            have hyn : ys.length ≤ 1000000 := by
              have hq := hlen.out
              obtain ⟨_, _, _, _, _, _, _, h, _⟩ := hta
              omega
            clear hta hb7
            go_wp2_with fail
            refine (HTa.out.all_t hl9 fun k => by rw [flk_all (by omega) (by omega)]; exact (HU9.out k).symm).mono ?_
            rintro e w8 ⟨a', c', zs, rfl, hy, hz, hyz, hb8⟩
            have HY := hide hy
            have HZ := hide hz
            have hzl : zs.length = ys.length := by have := congrArg List.length hyz; simp [ers] at this; omega
            rw [hzl] at hz ⊢
            have HSy := hide (sames_yes _ _ _ _ _ _ _ _ hy hz hyz hyn)
            have HB8 := hide (HB7.out.trans hb8)
            clear hy hz hyz hb8
            go_wp2_with fail
            refine HSy.out.mono ?_
            rintro e w9 ⟨rfl, hb9⟩
            have HB0 := hide (HB8.out.trans (hb9.mono HB8.out.size))
            clear hb9
            go_wp2
            go_ret
            exact ⟨rfl, HB2.out.trans (HB0.out.mono HB2.out.size)⟩
        | succ j =>
          have ej : ((j + 1 : Nat) : Int) - 1 = (j : Int) := by omega
          have hjn : j < kn := by omega
          obtain ⟨x, b, off, hx, rfl, hbs, c0, hok⟩ := (HK2.out.below HBk.out).at hjn
          have hlx := HKb.out x (List.mem_of_getElem? hx)
          have hlen' := hlen.out
          have HSp := hide (HTk.out.t_on fun O E h => key_any h (by omega) x.ka x.key.length x.kc x.key hok hlx)
          have HU' : Hid (∀ k, U (Lk ++ [⟨x.key, x.key ++ [0], false⟩]) k ↔ Ps xs k ∨ Pk (ks.drop j) k) := hide fun k => by
            rw [U_app, hU.out, drop_at hx, Pk.cons, U_one]
            constructor
            · rintro ((h | h) | h)
              · exact .inl h
              · exact .inr (.inr h)
              · exact .inr (.inl h)
            · rintro (h | h | h)
              · exact .inl (.inl h)
              · exact .inr h
              · exact .inl (.inr h)
          have HLs : Hid ((Lk ++ [(⟨x.key, x.key ++ [0], false⟩ : Ee)]).length ≤ ln + (kn - j)) := hide (by simp; omega)
          have f1 : (j : Int) < (kn : Int) := by omega
          have f2 : (0 : Int) ≤ (j : Int) := by omega
          have e3 : IntKind.i64.wrap ((j : Int) - 1) = (j : Int) - 1 := by rw [IntKind.wrap_i64] <;> omega
          rw [ej]
          clear hx hok hlen' ej
          go_wp2_with fail
          refine HSp.out.mono ?_
          rintro e w6 ⟨rfl, htw6, hb6⟩
          have HT6 := hide htw6
          have HB6 := hide (HBk.out.trans hb6)
          clear htw6 hb6
          go_wp2
          go_roundw
          case rel => exact ⟨j, _, by omega, rfl, HLs.out, HU'.out, HT6.out, HB6.out⟩
          case measure => simp [intOf]
    | succ j =>
      have ej : ((j + 1 : Nat) : Int) - 1 = (j : Int) := by omega
      have hjn : j < ln := by omega
      obtain ⟨x, hx, hok⟩ := (HL2.out.below HBj.out).at hjn
      obtain ⟨b, off, rfl, hbs, c0, c1, c2⟩ := (HL2.out.below HBj.out).cells hx
      have hlx := HLb.out x (List.mem_of_getElem? hx)
      have hlen' := hlen.out
      have HSp := hide (HTj.out.t_on fun O E h => span_any h (by omega) x hok hlx)
      have HU' : Hid (∀ k, U (Lt ++ sps x.e) k ↔ Ps (xs.drop j) k) := hide fun k => by rw [U_app, hU.out, drop_at hx, Ps.cons]; exact Or.comm
      have HLs : Hid ((Lt ++ sps x.e).length ≤ ln - j) := hide (by have := sps_len x.e; simp; omega)
      have f1 : (j : Int) < (ln : Int) := by omega
      have f2 : (0 : Int) ≤ (j : Int) := by omega
      have e3 : IntKind.i64.wrap ((j : Int) - 1) = (j : Int) - 1 := by rw [IntKind.wrap_i64] <;> omega
      rw [ej]
      clear hx hok hlen' ej
      go_wp2_with fail
      refine HSp.out.mono ?_
      rintro e w6 ⟨rfl, htw6, hb6⟩
      have HT6 := hide htw6
      have HB6 := hide (HBj.out.trans hb6)
      clear htw6 hb6
      go_wp2
      go_roundw
      case rel => exact ⟨j, _, by omega, rfl, HLs.out, HU'.out, HT6.out, HB6.out⟩
      case measure => simp [intOf]
end Go.Proofs.Ytpoanlbjhhlagaa
