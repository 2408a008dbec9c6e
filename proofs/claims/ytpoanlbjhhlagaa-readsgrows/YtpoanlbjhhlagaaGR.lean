/- ReadsGrows: the walk. -/
import Derived.Test.YtpoanlbjhhlagaaTR
import Derived.Test.YtpoanlbjhhlagaaZT
namespace Go.Proofs.Ytpoanlbjhhlagaa
open Go.RowKit Go.Maps
set_option linter.unusedVariables false

abbrev gA0 : Oper := { dst := some 87, op := Op.move (Operand.tmp 15), type := 26, pos := "more.go:22", after := #[], guard := none }
abbrev gA1 : Oper := { dst := some 88, op := Op.move (Operand.tmp 3), type := 22, pos := "more.go:22", after := #[], guard := none }
abbrev gA2 : Oper := { dst := some 89, op := Op.move (Operand.tmp 19), type := 3, pos := "more.go:22", after := #[], guard := none }
abbrev gA3 : Oper := { dst := some 90, op := Op.indexAddr 22 (Operand.tmp 88) (Operand.tmp 89), type := 0, pos := "more.go:22", after := #[{ on := 1, ground := Ground.data }, { on := 2, ground := Ground.data }], guard := none }
abbrev gA4 : Oper := { dst := some 91, op := Op.load 33 (Operand.tmp 90), type := 33, pos := "more.go:22", after := #[{ on := 3, ground := Ground.data }], guard := none }
abbrev gA5 : Oper := { dst := some 92, op := Op.call { callee := Callee.value (Operand.func 12), args := #[Operand.tmp 87, Operand.tmp 91], argTypes := #[26, 33] }, type := 4, pos := "more.go:22", after := #[{ on := 0, ground := Ground.data }, { on := 4, ground := Ground.data }], guard := none }
abbrev gA6 : Oper := { dst := some 93, op := Op.move (Operand.tmp 9), type := 26, pos := "more.go:22", after := #[], guard := none }
abbrev gA7 : Oper := { dst := some 94, op := Op.move (Operand.tmp 3), type := 22, pos := "more.go:22", after := #[], guard := none }
abbrev gA8 : Oper := { dst := some 95, op := Op.move (Operand.tmp 19), type := 3, pos := "more.go:22", after := #[], guard := none }
abbrev gA9 : Oper := { dst := some 96, op := Op.indexAddr 22 (Operand.tmp 94) (Operand.tmp 95), type := 0, pos := "more.go:22", after := #[{ on := 7, ground := Ground.data }, { on := 8, ground := Ground.data }], guard := none }
abbrev gA10 : Oper := { dst := some 97, op := Op.load 33 (Operand.tmp 96), type := 33, pos := "more.go:22", after := #[{ on := 9, ground := Ground.data }], guard := none }
abbrev gA11 : Oper := { dst := some 98, op := Op.call { callee := Callee.value (Operand.func 12), args := #[Operand.tmp 93, Operand.tmp 97], argTypes := #[26, 33] }, type := 4, pos := "more.go:22", after := #[{ on := 6, ground := Ground.data }, { on := 10, ground := Ground.data }, { on := 5, ground := Ground.chain }], guard := none }
abbrev gA12 : Oper := { dst := some 99, op := Op.move (Operand.tmp 98), type := 4, pos := "more.go:22", after := #[{ on := 11, ground := Ground.data }, { on := 11, ground := Ground.chain }], guard := none }
abbrev gA13 : Oper := { dst := some 100, op := Op.move (Operand.tmp 12), type := 26, pos := "more.go:22", after := #[{ on := 12, ground := Ground.guard }], guard := some (12, false) }
abbrev gA14 : Oper := { dst := some 101, op := Op.move (Operand.tmp 3), type := 22, pos := "more.go:22", after := #[{ on := 12, ground := Ground.guard }], guard := some (12, false) }
abbrev gA15 : Oper := { dst := some 102, op := Op.move (Operand.tmp 19), type := 3, pos := "more.go:22", after := #[{ on := 12, ground := Ground.guard }], guard := some (12, false) }
abbrev gA16 : Oper := { dst := some 103, op := Op.indexAddr 22 (Operand.tmp 101) (Operand.tmp 102), type := 0, pos := "more.go:22", after := #[{ on := 14, ground := Ground.data }, { on := 15, ground := Ground.data }, { on := 12, ground := Ground.guard }], guard := some (12, false) }
abbrev gA17 : Oper := { dst := some 104, op := Op.load 33 (Operand.tmp 103), type := 33, pos := "more.go:22", after := #[{ on := 16, ground := Ground.data }, { on := 12, ground := Ground.guard }], guard := some (12, false) }
abbrev gA18 : Oper := { dst := some 105, op := Op.call { callee := Callee.value (Operand.func 12), args := #[Operand.tmp 100, Operand.tmp 104], argTypes := #[26, 33] }, type := 4, pos := "more.go:22", after := #[{ on := 13, ground := Ground.data }, { on := 17, ground := Ground.data }, { on := 12, ground := Ground.chain }, { on := 12, ground := Ground.guard }], guard := some (12, false) }
abbrev gA19 : Oper := { dst := some 106, op := Op.pick (Operand.tmp 99) (Operand.const (Value.bool true)) (Operand.tmp 105), type := 4, pos := "more.go:22", after := #[{ on := 12, ground := Ground.data }, { on := 18, ground := Ground.data }], guard := none }
abbrev gA20 : Oper := { dst := some 107, op := Op.binOp BinOp.neq 4 (Operand.tmp 92) (Operand.tmp 106) 4, type := 4, pos := "more.go:22", after := #[{ on := 5, ground := Ground.data }, { on := 19, ground := Ground.data }], guard := none }
abbrev gB0 : Oper := { dst := some 87, op := Op.move (Operand.tmp 15), type := 26, pos := "more.go:22", after := #[], guard := none }
abbrev gB1 : Oper := { dst := some 88, op := Op.move (Operand.tmp 3), type := 22, pos := "more.go:22", after := #[], guard := none }
abbrev gB2 : Oper := { dst := some 89, op := Op.move (Operand.tmp 19), type := 3, pos := "more.go:22", after := #[], guard := none }
abbrev gB3 : Oper := { dst := some 90, op := Op.indexAddr 22 (Operand.tmp 88) (Operand.tmp 89), type := 0, pos := "more.go:22", after := #[{ on := 1, ground := Ground.data }, { on := 2, ground := Ground.data }], guard := none }
abbrev gB4 : Oper := { dst := some 91, op := Op.load 33 (Operand.tmp 90), type := 33, pos := "more.go:22", after := #[{ on := 3, ground := Ground.data }], guard := none }
abbrev gB5 : Oper := { dst := some 92, op := Op.call { callee := Callee.value (Operand.func 12), args := #[Operand.tmp 87, Operand.tmp 91], argTypes := #[26, 33] }, type := 4, pos := "more.go:22", after := #[{ on := 0, ground := Ground.data }, { on := 4, ground := Ground.data }], guard := none }
abbrev gB6 : Oper := { dst := some 93, op := Op.move (Operand.tmp 9), type := 26, pos := "more.go:22", after := #[], guard := none }
abbrev gB7 : Oper := { dst := some 94, op := Op.move (Operand.tmp 3), type := 22, pos := "more.go:22", after := #[], guard := none }
abbrev gB8 : Oper := { dst := some 95, op := Op.move (Operand.tmp 19), type := 3, pos := "more.go:22", after := #[], guard := none }
abbrev gB9 : Oper := { dst := some 96, op := Op.indexAddr 22 (Operand.tmp 94) (Operand.tmp 95), type := 0, pos := "more.go:22", after := #[{ on := 7, ground := Ground.data }, { on := 8, ground := Ground.data }], guard := none }
abbrev gB10 : Oper := { dst := some 97, op := Op.load 33 (Operand.tmp 96), type := 33, pos := "more.go:22", after := #[{ on := 9, ground := Ground.data }], guard := none }
abbrev gB11 : Oper := { dst := some 98, op := Op.call { callee := Callee.value (Operand.func 12), args := #[Operand.tmp 93, Operand.tmp 97], argTypes := #[26, 33] }, type := 4, pos := "more.go:22", after := #[{ on := 6, ground := Ground.data }, { on := 10, ground := Ground.data }, { on := 5, ground := Ground.chain }], guard := none }
abbrev gB12 : Oper := { dst := some 99, op := Op.move (Operand.tmp 98), type := 4, pos := "more.go:22", after := #[{ on := 11, ground := Ground.data }, { on := 11, ground := Ground.chain }], guard := none }
abbrev gB13 : Oper := { dst := some 100, op := Op.move (Operand.tmp 12), type := 26, pos := "more.go:22", after := #[{ on := 12, ground := Ground.guard }], guard := some (12, false) }
abbrev gB14 : Oper := { dst := some 101, op := Op.move (Operand.tmp 3), type := 22, pos := "more.go:22", after := #[{ on := 12, ground := Ground.guard }], guard := some (12, false) }
abbrev gB15 : Oper := { dst := some 102, op := Op.move (Operand.tmp 19), type := 3, pos := "more.go:22", after := #[{ on := 12, ground := Ground.guard }], guard := some (12, false) }
abbrev gB16 : Oper := { dst := some 103, op := Op.indexAddr 22 (Operand.tmp 101) (Operand.tmp 102), type := 0, pos := "more.go:22", after := #[{ on := 14, ground := Ground.data }, { on := 15, ground := Ground.data }, { on := 12, ground := Ground.guard }], guard := some (12, false) }
abbrev gB17 : Oper := { dst := some 104, op := Op.load 33 (Operand.tmp 103), type := 33, pos := "more.go:22", after := #[{ on := 16, ground := Ground.data }, { on := 12, ground := Ground.guard }], guard := some (12, false) }
abbrev gB18 : Oper := { dst := some 105, op := Op.call { callee := Callee.value (Operand.func 12), args := #[Operand.tmp 100, Operand.tmp 104], argTypes := #[26, 33] }, type := 4, pos := "more.go:22", after := #[{ on := 13, ground := Ground.data }, { on := 17, ground := Ground.data }, { on := 12, ground := Ground.chain }, { on := 12, ground := Ground.guard }], guard := some (12, false) }
abbrev gB19 : Oper := { dst := some 106, op := Op.pick (Operand.tmp 99) (Operand.const (Value.bool true)) (Operand.tmp 105), type := 4, pos := "more.go:22", after := #[{ on := 12, ground := Ground.data }, { on := 18, ground := Ground.data }], guard := none }
abbrev gB20 : Oper := { dst := some 107, op := Op.binOp BinOp.neq 4 (Operand.tmp 92) (Operand.tmp 106) 4, type := 4, pos := "more.go:22", after := #[{ on := 5, ground := Ground.data }, { on := 19, ground := Ground.data }], guard := none }
abbrev gC0 : Oper := { dst := some 87, op := Op.move (Operand.tmp 15), type := 26, pos := "more.go:22", after := #[], guard := none }
abbrev gC1 : Oper := { dst := some 88, op := Op.move (Operand.tmp 3), type := 22, pos := "more.go:22", after := #[], guard := none }
abbrev gC2 : Oper := { dst := some 89, op := Op.move (Operand.tmp 19), type := 3, pos := "more.go:22", after := #[], guard := none }
abbrev gC3 : Oper := { dst := some 90, op := Op.indexAddr 22 (Operand.tmp 88) (Operand.tmp 89), type := 0, pos := "more.go:22", after := #[{ on := 1, ground := Ground.data }, { on := 2, ground := Ground.data }], guard := none }
abbrev gC4 : Oper := { dst := some 91, op := Op.load 33 (Operand.tmp 90), type := 33, pos := "more.go:22", after := #[{ on := 3, ground := Ground.data }], guard := none }
abbrev gC5 : Oper := { dst := some 92, op := Op.call { callee := Callee.value (Operand.func 12), args := #[Operand.tmp 87, Operand.tmp 91], argTypes := #[26, 33] }, type := 4, pos := "more.go:22", after := #[{ on := 0, ground := Ground.data }, { on := 4, ground := Ground.data }], guard := none }
abbrev gC6 : Oper := { dst := some 93, op := Op.move (Operand.tmp 9), type := 26, pos := "more.go:22", after := #[], guard := none }
abbrev gC7 : Oper := { dst := some 94, op := Op.move (Operand.tmp 3), type := 22, pos := "more.go:22", after := #[], guard := none }
abbrev gC8 : Oper := { dst := some 95, op := Op.move (Operand.tmp 19), type := 3, pos := "more.go:22", after := #[], guard := none }
abbrev gC9 : Oper := { dst := some 96, op := Op.indexAddr 22 (Operand.tmp 94) (Operand.tmp 95), type := 0, pos := "more.go:22", after := #[{ on := 7, ground := Ground.data }, { on := 8, ground := Ground.data }], guard := none }
abbrev gC10 : Oper := { dst := some 97, op := Op.load 33 (Operand.tmp 96), type := 33, pos := "more.go:22", after := #[{ on := 9, ground := Ground.data }], guard := none }
abbrev gC11 : Oper := { dst := some 98, op := Op.call { callee := Callee.value (Operand.func 12), args := #[Operand.tmp 93, Operand.tmp 97], argTypes := #[26, 33] }, type := 4, pos := "more.go:22", after := #[{ on := 6, ground := Ground.data }, { on := 10, ground := Ground.data }, { on := 5, ground := Ground.chain }], guard := none }
abbrev gC12 : Oper := { dst := some 99, op := Op.move (Operand.tmp 98), type := 4, pos := "more.go:22", after := #[{ on := 11, ground := Ground.data }, { on := 11, ground := Ground.chain }], guard := none }
abbrev gC13 : Oper := { dst := some 100, op := Op.move (Operand.tmp 12), type := 26, pos := "more.go:22", after := #[{ on := 12, ground := Ground.guard }], guard := some (12, false) }
abbrev gC14 : Oper := { dst := some 101, op := Op.move (Operand.tmp 3), type := 22, pos := "more.go:22", after := #[{ on := 12, ground := Ground.guard }], guard := some (12, false) }
abbrev gC15 : Oper := { dst := some 102, op := Op.move (Operand.tmp 19), type := 3, pos := "more.go:22", after := #[{ on := 12, ground := Ground.guard }], guard := some (12, false) }
abbrev gC16 : Oper := { dst := some 103, op := Op.indexAddr 22 (Operand.tmp 101) (Operand.tmp 102), type := 0, pos := "more.go:22", after := #[{ on := 14, ground := Ground.data }, { on := 15, ground := Ground.data }, { on := 12, ground := Ground.guard }], guard := some (12, false) }
abbrev gC17 : Oper := { dst := some 104, op := Op.load 33 (Operand.tmp 103), type := 33, pos := "more.go:22", after := #[{ on := 16, ground := Ground.data }, { on := 12, ground := Ground.guard }], guard := some (12, false) }
abbrev gC18 : Oper := { dst := some 105, op := Op.call { callee := Callee.value (Operand.func 12), args := #[Operand.tmp 100, Operand.tmp 104], argTypes := #[26, 33] }, type := 4, pos := "more.go:22", after := #[{ on := 13, ground := Ground.data }, { on := 17, ground := Ground.data }, { on := 12, ground := Ground.chain }, { on := 12, ground := Ground.guard }], guard := some (12, false) }
abbrev gC19 : Oper := { dst := some 106, op := Op.pick (Operand.tmp 99) (Operand.const (Value.bool true)) (Operand.tmp 105), type := 4, pos := "more.go:22", after := #[{ on := 12, ground := Ground.data }, { on := 18, ground := Ground.data }], guard := none }
abbrev gC20 : Oper := { dst := some 107, op := Op.binOp BinOp.neq 4 (Operand.tmp 92) (Operand.tmp 106) 4, type := 4, pos := "more.go:22", after := #[{ on := 5, ground := Ground.data }, { on := 19, ground := Ground.data }], guard := none }

theorem Mks.or {L1 L2 L3 : List Ee} (h : ∀ k, U L3 k ↔ U L1 k ∨ U L2 k) (ks : List Ky) : Mks L3 ks ↔ Mks L1 ks ∨ Mks L2 ks := by
  unfold Mks
  constructor
  · rintro ⟨x, hx, hu⟩
    rcases (h x.key).1 hu with h | h
    · exact .inl ⟨x, hx, h⟩
    · exact .inr ⟨x, hx, h⟩
  · rintro (⟨x, hx, h1⟩ | ⟨x, hx, h1⟩)
    · exact ⟨x, hx, (h _).2 (.inl h1)⟩
    · exact ⟨x, hx, (h _).2 (.inr h1)⟩
set_option maxHeartbeats 12800000 in
set_option maxRecDepth 1000000 in
theorem grows_walk (ka : Option Addr) (kn kc : Nat) (ks : List Ky) (la : Option Addr) (ln lc : Nat) (xs : List En) (ma : Option Addr) (mn mc : Nat) (ms : List En) (aa : Option Addr) (an ac : Nat) (qs : List Ky) (w : World) (hK : Kys w ka kn kc ks) (hL : Ens w la ln lc xs) (hM : Ens w ma mn mc ms) (hA : Kys w aa an ac qs) (sk : Szk ks) (sl : Szs xs) (sm : Szs ms) (sa : Szk qs) :
    Calls Try.prog 6 #[.slice ka kn kc, .slice la ln lc, .slice ma mn mc, .slice aa an ac] w fun e w' => e = .returned (.bool true) ∧ Below w.heap.size w w' := by
  have HK := hide hK
  have HL := hide hL
  have HM := hide hM
  have HA := hide hA
  have HM1 := hide (many_any ka kn kc ks w hK sk)
  have SL := hide sl
  have SM := hide sm
  have SA := hide sa
  have hkl := hK.len
  have hll := hL.len
  have hml := hM.len
  have hal := hA.len
  have ham := hA.max
  have hac := hA.cap
  clear hK hL hM hA sk sl sm sa
  go_enter Try.func6, Try.ntmps6
  go_wp2_with fail
  refine HM1.out.mono ?_
  rintro e w1 ⟨hmu, hb⟩
  have HB1 := hide hb
  clear hb
  rcases hmu with rfl | ⟨rfl, hk3, hkb⟩
  · go_wp2_with fail
    refine (known_any _).mono ?_
    rintro e wk ⟨rfl, hbk⟩
    have HBk := hide (HB1.out.trans (hbk.mono HB1.out.size))
    clear hbk
    go_wp2
    go_ret
    exact ⟨rfl, HBk.out⟩
  go_wp2_with fail
  refine (much_any la ln lc xs w1 (HL.out.below HB1.out) SL.out).mono ?_
  rintro e w2 ⟨hmu, hb⟩
  have HB2 := hide (HB1.out.trans (hb.mono HB1.out.size))
  clear hb
  rcases hmu with rfl | ⟨rfl, hl3, hlb⟩
  · go_wp2_with fail
    refine (known_any _).mono ?_
    rintro e wk ⟨rfl, hbk⟩
    have HBk := hide (HB2.out.trans (hbk.mono HB2.out.size))
    clear hbk
    go_wp2
    go_ret
    exact ⟨rfl, HBk.out⟩
  go_wp2_with fail
  refine (much_any ma mn mc ms w2 (HM.out.below HB2.out) SM.out).mono ?_
  rintro e w3 ⟨hmu, hb⟩
  have HB3 := hide (HB2.out.trans (hb.mono HB2.out.size))
  clear hb
  rcases hmu with rfl | ⟨rfl, hm3, hmb⟩
  · go_wp2_with fail
    refine (known_any _).mono ?_
    rintro e wk ⟨rfl, hbk⟩
    have HBk := hide (HB3.out.trans (hbk.mono HB3.out.size))
    clear hbk
    go_wp2
    go_ret
    exact ⟨rfl, HBk.out⟩
  go_wp2_with fail
  refine (many_any aa an ac qs w3 (HA.out.below HB3.out) SA.out).mono ?_
  rintro e w4 ⟨hmu, hb⟩
  have HB4 := hide (HB3.out.trans (hb.mono HB3.out.size))
  clear hb
  rcases hmu with rfl | ⟨rfl, ha3, hab⟩
  · go_wp2_with fail
    refine (known_any _).mono ?_
    rintro e wk ⟨rfl, hbk⟩
    have HBk := hide (HB4.out.trans (hbk.mono HB4.out.size))
    clear hbk
    go_wp2
    go_ret
    exact ⟨rfl, HBk.out⟩
  go_wp2_with fail
  refine (known_any _).mono ?_
  rintro e w5 ⟨rfl, hb⟩
  have HB5 := hide (HB4.out.trans (hb.mono HB4.out.size))
  clear hb
  rw [hkl] at hk3
  rw [hll] at hl3
  rw [hml] at hm3
  rw [hal] at ha3
  have HK5 := hide (HK.out.below HB5.out)
  have HL5 := hide (HL.out.below HB5.out)
  have HM5 := hide (HM.out.below HB5.out)
  have HA5 := hide (HA.out.below HB5.out)
  have HKb := hide hkb
  have HLb := hide hlb
  have HMb := hide hmb
  clear hkb hlb hmb hab
  have HFa := hide (filled_any HK5.out HL5.out hk3 hl3 HKb.out HLb.out)
  go_wp2_with fail
  refine HFa.out.mono ?_
  rintro e w6 ⟨i1, p, pr, rfl, hi1, hk1, hl1, hfs, hb⟩
  have HF6 := hide hfs
  have HB6 := hide hb
  have HFb := hide (filled_any (w := w6) (ka := none) (kn := 0) (kc := 0) (ks := []) ⟨rfl, Nat.le_refl _, by omega, .inl rfl, by simp⟩ (HM5.out.below HB6.out) (by omega) hm3 (by simp) HMb.out)
  clear hfs hb HFa
  go_wp2_with fail
  refine HFb.out.mono ?_
  rintro e w7 ⟨i2, q, qr, rfl, hi2, hk2, hm2, hfs, hb⟩
  have HF7 := hide hfs
  have HB7 := hide hb
  have HB57 := hide (HB6.out.trans (HB7.out.mono HB6.out.size))
  have HFc := hide (filled_any (HK5.out.below HB57.out) (HL5.out.below HB57.out) hk3 hl3 HKb.out HLb.out)
  clear hfs hb HFb
  go_wp2_with fail
  refine HFc.out.mono ?_
  rintro e w8 ⟨i3, r, rr, rfl, hi3, hk8, hl8, hfs, hb⟩
  have HT := hide (Tr.make HF6.out HF7.out hfs HB7.out hb)
  have HB8 := hide (HB57.out.trans (hb.mono HB57.out.size))
  have HUa : Hid (∀ k, U (flk ks xs i1) k ↔ Ps xs k ∨ Pk ks k) := hide (flk_all (by omega) (by omega))
  have HUb : Hid (∀ k, U (flk [] ms i2) k ↔ Ps ms k) := hide fun k => by rw [flk_all (by simp) (by omega)]; simp [Pk]
  have HUc : Hid (∀ k, U (flk ks xs i3) k ↔ Ps xs k ∨ Pk ks k) := hide (flk_all (by omega) (by omega))
  have hn1 : (flk ks xs i1).length ≤ 1000 := by have := flk_len ks xs i1; omega
  have hn2 : (flk [] ms i2).length ≤ 1000 := by have := flk_len [] ms i2; omega
  have hn3 : (flk ks xs i3).length ≤ 600 := by have := flk_len ks xs i3; omega
  generalize flk ks xs i1 = La at *
  generalize flk [] ms i2 = Lb at *
  generalize flk ks xs i3 = Lc at *
  clear hfs hb HFc HF6 HF7 HB6 HB7 HB57
  go_wp2
  go_loopw [18] (fun vi wr => ∃ (j : Nat) (Ld : List Ee), j ≤ mn ∧ vi = .int .i64 (j : Int) ∧ Ld.length ≤ 600 + j ∧ Hid (∀ k, U Ld k ↔ U Lc k ∨ Ps (ms.take j) k) ∧ Tr wr w5.heap.size p q r La Lb Ld ∧ Below w5.heap.size w5 wr) (fun vi _ => (mn : Int).toNat - (intOf vi).toNat)
  case atStart => exact ⟨0, Lc, Nat.zero_le _, rfl, by omega, hide fun k => by simp [Ps], HT.out, HB8.out⟩
  case round =>
    obtain ⟨j, Ld, hj, rfl, hld, hU, htr, hb⟩ := hrel
    have HTj := hide htr
    have HBj := hide hb
    clear htr hb
    by_cases hjn : j < mn
    · obtain ⟨x, hx, hok⟩ := (HM5.out.below HBj.out).at hjn
      obtain ⟨b, off, rfl, hbs, c0, c1, c2⟩ := (HM5.out.below HBj.out).cells hx
      have hlx := HMb.out x (List.mem_of_getElem? hx)
      have HSp := hide (HTj.out.span_c (by omega) x hok hlx)
      have HU' : Hid (∀ k, U (Ld ++ sps x.e) k ↔ U Lc k ∨ Ps (ms.take (j + 1)) k) := hide fun k => by
        rw [U_app, hU.out, take_at hx]
        simp [Ps, or_and_right, exists_or, or_assoc]
      have HLs : Hid ((Ld ++ sps x.e).length ≤ 600 + (j + 1)) := hide (by have := sps_len x.e; simp; omega)
      have f1 : (j : Int) < (mn : Int) := by omega
      have f2 : (0 : Int) ≤ (j : Int) := by omega
      have e4 : IntKind.i64.wrap ((j : Int) + 1) = (j : Int) + 1 := by rw [IntKind.wrap_i64] <;> omega
      clear hx hok
      go_wp2_with fail
      refine HSp.out.mono ?_
      rintro e w9 ⟨rfl, ht9, hb9⟩
      have HT9 := hide ht9
      have HB9 := hide (HBj.out.trans hb9)
      clear ht9 hb9
      go_wp2
      go_roundw
      case rel => exact ⟨j + 1, _, by omega, by simp, HLs.out, HU'.out, HT9.out, HB9.out⟩
      case measure => simp [intOf]; omega
    · have hje : j = mn := by omega
      subst hje
      have f1 : ¬ (j : Int) < (j : Int) := by omega
      have HUo : Hid (∀ k, U Ld k ↔ U La k ∨ U Lb k) := hide fun k => by
        rw [hU.out, List.take_of_length_le (by omega), HUc.out, HUa.out, HUb.out]
      have hld2 : Ld.length ≤ 1000 := by omega
      clear hU
      go_wp2
      go_loopw [19] (fun vi wr' => ∃ (i : Nat), i ≤ an ∧ vi = .int .i64 (i : Int) ∧ Tr wr' w5.heap.size p q r La Lb Ld ∧ Below w5.heap.size w5 wr') (fun vi _ => (an : Int).toNat - (intOf vi).toNat)
      case atStart => exact ⟨0, Nat.zero_le _, rfl, HTj.out, HBj.out⟩
      case round =>
        obtain ⟨i, hi, rfl, htr, hb⟩ := hrel
        have HTi := hide htr
        have HBi := hide hb
        clear htr hb
        by_cases hin : i < an
        · obtain ⟨x, b, off, hx, rfl, hbs, c0, hok⟩ := HA5.out.at hin
          have HX5 := hide hok
          have HC : Hid (∀ W, Below w5.heap.size w5 W → W.cell? ⟨b, off + i, none⟩ = some (.slice x.ka x.key.length x.kc)) := hide fun W hW => (hW.cell (p := ⟨b, off + i, none⟩) hbs).trans c0
          have f1 : (i : Int) < (an : Int) := by omega
          have f2 : (0 : Int) ≤ (i : Int) := by omega
          have e4 : IntKind.i64.wrap ((i : Int) + 1) = (i : Int) + 1 := by rw [IntKind.wrap_i64] <;> omega
          have HUx := hide (HUo.out x.key)
          have s0 := HC.out _ HBi.out
          clear hx hok c0 hbs
          by_cases hUa : U La x.key
          · have HBd := hide HBi.out.drew
            go_wp2
            refine wp_region_noPanic ?_
            refine wp_region_held_drew (S := (fun W => W.cell? ⟨b, off + i, none⟩ = some (.slice x.ka x.key.length x.kc))) (by kernel_rfl) s0 (fun _hS => ?_)
            refine wtk (i := 0) (oi := gA0) (v := ?v0x501) rfl ⟨by rfl, ?hy0x501⟩ (by assumption) ?_
            case hy0x501 => (intro w s; (try dsimp only at s); first | (go_simp; with_reducible rfl) | go_simp)
            try simp only [Act.put, zps]
            refine wtk (i := 1) (oi := gA1) (v := ?v1x502) rfl ⟨by rfl, ?hy1x502⟩ (by assumption) ?_
            case hy1x502 => (intro w s; (try dsimp only at s); first | (go_simp; with_reducible rfl) | go_simp)
            try simp only [Act.put, zps]
            refine wtk (i := 2) (oi := gA2) (v := ?v2x503) rfl ⟨by rfl, ?hy2x503⟩ (by assumption) ?_
            case hy2x503 => (intro w s; (try dsimp only at s); first | (go_simp; with_reducible rfl) | go_simp)
            try simp only [Act.put, zps]
            refine wtk (i := 3) (oi := gA3) (v := ?v3x504) rfl ⟨by rfl, ?hy3x504⟩ (by assumption) ?_
            case hy3x504 => (intro w s; (try dsimp only at s); first | (go_simp; with_reducible rfl) | go_simp)
            try simp only [Act.put, zps]
            refine wtk (i := 6) (oi := gA6) (v := ?v6x505) rfl ⟨by rfl, ?hy6x505⟩ (by assumption) ?_
            case hy6x505 => (intro w s; (try dsimp only at s); first | (go_simp; with_reducible rfl) | go_simp)
            try simp only [Act.put, zps]
            refine wtk (i := 7) (oi := gA7) (v := ?v7x506) rfl ⟨by rfl, ?hy7x506⟩ (by assumption) ?_
            case hy7x506 => (intro w s; (try dsimp only at s); first | (go_simp; with_reducible rfl) | go_simp)
            try simp only [Act.put, zps]
            refine wtk (i := 8) (oi := gA8) (v := ?v8x507) rfl ⟨by rfl, ?hy8x507⟩ (by assumption) ?_
            case hy8x507 => (intro w s; (try dsimp only at s); first | (go_simp; with_reducible rfl) | go_simp)
            try simp only [Act.put, zps]
            refine wtk (i := 9) (oi := gA9) (v := ?v9x508) rfl ⟨by rfl, ?hy9x508⟩ (by assumption) ?_
            case hy9x508 => (intro w s; (try dsimp only at s); first | (go_simp; with_reducible rfl) | go_simp)
            try simp only [Act.put, zps]
            refine wtk (i := 4) (oi := gA4) (v := ?v4x509) rfl ⟨by rfl, ?hy4x509⟩ (by assumption) ?_
            case hy4x509 => (intro w s; (try dsimp only at s); first | (go_simp; with_reducible rfl) | go_simp)
            try simp only [Act.put, zps]
            refine wtk (i := 10) (oi := gA10) (v := ?v10x510) rfl ⟨by rfl, ?hy10x510⟩ (by assumption) ?_
            case hy10x510 => (intro w s; (try dsimp only at s); first | (go_simp; with_reducible rfl) | go_simp)
            try simp only [Act.put, zps]
            refine wpAnyH_ready (rs := [5]) (by kernel_rfl) (by simp) ?_
            refine AllReadyH.cons (o := gA5) rfl (fun K hK => ?_) (AllReadyH.nil)
            go_simp
            go_at_call 12
            refine (HTi.out.drew.has_c HBi.out.drew hld2 HX5.out (b := true) (by simp [HUx.out, hUa])).mono ?_
            rintro e wc ⟨rfl, ht, hb⟩
            have HT1 := hide ht
            have HB1 := hide (HBd.out.trans hb)
            clear ht hb
            go_simp
            refine hK.out _ _ ?_ (fun _hS => ?_)
            · exact HC.out _ HB1.out
            clear hK K
            try simp only [Act.put, zps]
            refine wpAnyH_ready (rs := [11]) (by kernel_rfl) (by simp) ?_
            refine AllReadyH.cons (o := gA11) rfl (fun K hK => ?_) (AllReadyH.nil)
            go_simp
            go_at_call 12
            refine (HT1.out.rot.has_c HB1.out hn1 HX5.out (b := true) (by simp [hUa])).mono ?_
            rintro e wd ⟨rfl, ht, hb⟩
            have HT2 := hide ht
            have HB2 := hide (HB1.out.trans hb)
            clear ht hb
            go_simp
            refine hK.out _ _ ?_ (fun _hS => ?_)
            · exact HC.out _ HB2.out
            clear hK K
            try simp only [Act.put, zps]
            refine wtk (i := 12) (oi := gA12) (v := ?v12x511) rfl ⟨by rfl, ?hy12x511⟩ (by assumption) ?_
            case hy12x511 => (intro w s; (try dsimp only at s); first | (go_simp; with_reducible rfl) | go_simp)
            try simp only [Act.put, zps]
            refine wpAnyH_take (i := 13) (oi := gA13) (v := undef) rfl (by kernel_rfl) (by kernel_rfl) (by kernel_rfl) (fun _ _ _ h => h) (Or.inr ⟨by rfl, rfl⟩) (by assumption) ?_
            try simp only [Act.put, zps]
            refine wpAnyH_take (i := 14) (oi := gA14) (v := undef) rfl (by kernel_rfl) (by kernel_rfl) (by kernel_rfl) (fun _ _ _ h => h) (Or.inr ⟨by rfl, rfl⟩) (by assumption) ?_
            try simp only [Act.put, zps]
            refine wpAnyH_take (i := 15) (oi := gA15) (v := undef) rfl (by kernel_rfl) (by kernel_rfl) (by kernel_rfl) (fun _ _ _ h => h) (Or.inr ⟨by rfl, rfl⟩) (by assumption) ?_
            try simp only [Act.put, zps]
            refine wpAnyH_take (i := 16) (oi := gA16) (v := undef) rfl (by kernel_rfl) (by kernel_rfl) (by kernel_rfl) (fun _ _ _ h => h) (Or.inr ⟨by rfl, rfl⟩) (by assumption) ?_
            try simp only [Act.put, zps]
            refine wpAnyH_take (i := 17) (oi := gA17) (v := undef) rfl (by kernel_rfl) (by kernel_rfl) (by kernel_rfl) (fun _ _ _ h => h) (Or.inr ⟨by rfl, rfl⟩) (by assumption) ?_
            try simp only [Act.put, zps]
            refine wpAnyH_take (i := 18) (oi := gA18) (v := undef) rfl (by kernel_rfl) (by kernel_rfl) (by kernel_rfl) (fun _ _ _ h => h) (Or.inr ⟨by rfl, rfl⟩) (by assumption) ?_
            try simp only [Act.put, zps]
            have HT3 := hide HT2.out.rot.rot
            have HB3 := HB2
            refine wtk (i := 19) (oi := gA19) (v := ?v19x512) rfl ⟨by rfl, ?hy19x512⟩ (by assumption) ?_
            case hy19x512 => (intro w s; (try dsimp only at s); first | (go_simp; with_reducible rfl) | go_simp)
            try simp only [Act.put, zps]
            refine wtk (i := 20) (oi := gA20) (v := ?v20x513) rfl ⟨by rfl, ?hy20x513⟩ (by assumption) ?_
            case hy20x513 => (intro w s; (try dsimp only at s); first | (go_simp; with_reducible rfl) | go_simp)
            try simp only [Act.put, zps]
            refine wpAnyH_done (by kernel_rfl) ?_ _
            refine NoPanic.normal ?_
            go_wp2
            go_roundw
            case rel => exact ⟨i + 1, by omega, by simp, HT3.out, HB3.out⟩
            case measure => simp [intOf]; omega
          · by_cases hUb : U Lb x.key
            · have HBd := hide HBi.out.drew
              go_wp2
              refine wp_region_noPanic ?_
              refine wp_region_held_drew (S := (fun W => W.cell? ⟨b, off + i, none⟩ = some (.slice x.ka x.key.length x.kc))) (by kernel_rfl) s0 (fun _hS => ?_)
              refine wtk (i := 0) (oi := gB0) (v := ?v0x601) rfl ⟨by rfl, ?hy0x601⟩ (by assumption) ?_
              case hy0x601 => (intro w s; (try dsimp only at s); first | (go_simp; with_reducible rfl) | go_simp)
              try simp only [Act.put, zps]
              refine wtk (i := 1) (oi := gB1) (v := ?v1x602) rfl ⟨by rfl, ?hy1x602⟩ (by assumption) ?_
              case hy1x602 => (intro w s; (try dsimp only at s); first | (go_simp; with_reducible rfl) | go_simp)
              try simp only [Act.put, zps]
              refine wtk (i := 2) (oi := gB2) (v := ?v2x603) rfl ⟨by rfl, ?hy2x603⟩ (by assumption) ?_
              case hy2x603 => (intro w s; (try dsimp only at s); first | (go_simp; with_reducible rfl) | go_simp)
              try simp only [Act.put, zps]
              refine wtk (i := 3) (oi := gB3) (v := ?v3x604) rfl ⟨by rfl, ?hy3x604⟩ (by assumption) ?_
              case hy3x604 => (intro w s; (try dsimp only at s); first | (go_simp; with_reducible rfl) | go_simp)
              try simp only [Act.put, zps]
              refine wtk (i := 6) (oi := gB6) (v := ?v6x605) rfl ⟨by rfl, ?hy6x605⟩ (by assumption) ?_
              case hy6x605 => (intro w s; (try dsimp only at s); first | (go_simp; with_reducible rfl) | go_simp)
              try simp only [Act.put, zps]
              refine wtk (i := 7) (oi := gB7) (v := ?v7x606) rfl ⟨by rfl, ?hy7x606⟩ (by assumption) ?_
              case hy7x606 => (intro w s; (try dsimp only at s); first | (go_simp; with_reducible rfl) | go_simp)
              try simp only [Act.put, zps]
              refine wtk (i := 8) (oi := gB8) (v := ?v8x607) rfl ⟨by rfl, ?hy8x607⟩ (by assumption) ?_
              case hy8x607 => (intro w s; (try dsimp only at s); first | (go_simp; with_reducible rfl) | go_simp)
              try simp only [Act.put, zps]
              refine wtk (i := 9) (oi := gB9) (v := ?v9x608) rfl ⟨by rfl, ?hy9x608⟩ (by assumption) ?_
              case hy9x608 => (intro w s; (try dsimp only at s); first | (go_simp; with_reducible rfl) | go_simp)
              try simp only [Act.put, zps]
              refine wtk (i := 4) (oi := gB4) (v := ?v4x609) rfl ⟨by rfl, ?hy4x609⟩ (by assumption) ?_
              case hy4x609 => (intro w s; (try dsimp only at s); first | (go_simp; with_reducible rfl) | go_simp)
              try simp only [Act.put, zps]
              refine wtk (i := 10) (oi := gB10) (v := ?v10x610) rfl ⟨by rfl, ?hy10x610⟩ (by assumption) ?_
              case hy10x610 => (intro w s; (try dsimp only at s); first | (go_simp; with_reducible rfl) | go_simp)
              try simp only [Act.put, zps]
              refine wpAnyH_ready (rs := [5]) (by kernel_rfl) (by simp) ?_
              refine AllReadyH.cons (o := gB5) rfl (fun K hK => ?_) (AllReadyH.nil)
              go_simp
              go_at_call 12
              refine (HTi.out.drew.has_c HBi.out.drew hld2 HX5.out (b := true) (by simp [HUx.out, hUb])).mono ?_
              rintro e wc ⟨rfl, ht, hb⟩
              have HT1 := hide ht
              have HB1 := hide (HBd.out.trans hb)
              clear ht hb
              go_simp
              refine hK.out _ _ ?_ (fun _hS => ?_)
              · exact HC.out _ HB1.out
              clear hK K
              try simp only [Act.put, zps]
              refine wpAnyH_ready (rs := [11]) (by kernel_rfl) (by simp) ?_
              refine AllReadyH.cons (o := gB11) rfl (fun K hK => ?_) (AllReadyH.nil)
              go_simp
              go_at_call 12
              refine (HT1.out.rot.has_c HB1.out hn1 HX5.out (b := false) (by simp [hUa])).mono ?_
              rintro e wd ⟨rfl, ht, hb⟩
              have HT2 := hide ht
              have HB2 := hide (HB1.out.trans hb)
              clear ht hb
              go_simp
              refine hK.out _ _ ?_ (fun _hS => ?_)
              · exact HC.out _ HB2.out
              clear hK K
              try simp only [Act.put, zps]
              refine wtk (i := 12) (oi := gB12) (v := ?v12x611) rfl ⟨by rfl, ?hy12x611⟩ (by assumption) ?_
              case hy12x611 => (intro w s; (try dsimp only at s); first | (go_simp; with_reducible rfl) | go_simp)
              try simp only [Act.put, zps]
              refine wtk (i := 13) (oi := gB13) (v := ?v13x612) rfl ⟨by rfl, ?hy13x612⟩ (by assumption) ?_
              case hy13x612 => (intro w s; (try dsimp only at s); first | (go_simp; with_reducible rfl) | go_simp)
              try simp only [Act.put, zps]
              refine wtk (i := 14) (oi := gB14) (v := ?v14x613) rfl ⟨by rfl, ?hy14x613⟩ (by assumption) ?_
              case hy14x613 => (intro w s; (try dsimp only at s); first | (go_simp; with_reducible rfl) | go_simp)
              try simp only [Act.put, zps]
              refine wtk (i := 15) (oi := gB15) (v := ?v15x614) rfl ⟨by rfl, ?hy15x614⟩ (by assumption) ?_
              case hy15x614 => (intro w s; (try dsimp only at s); first | (go_simp; with_reducible rfl) | go_simp)
              try simp only [Act.put, zps]
              refine wtk (i := 16) (oi := gB16) (v := ?v16x615) rfl ⟨by rfl, ?hy16x615⟩ (by assumption) ?_
              case hy16x615 => (intro w s; (try dsimp only at s); first | (go_simp; with_reducible rfl) | go_simp)
              try simp only [Act.put, zps]
              refine wtk (i := 17) (oi := gB17) (v := ?v17x616) rfl ⟨by rfl, ?hy17x616⟩ (by assumption) ?_
              case hy17x616 => (intro w s; (try dsimp only at s); first | (go_simp; with_reducible rfl) | go_simp)
              try simp only [Act.put, zps]
              refine wpAnyH_ready (rs := [18]) (by kernel_rfl) (by simp) ?_
              refine AllReadyH.cons (o := gB18) rfl (fun K hK => ?_) (AllReadyH.nil)
              go_simp
              go_at_call 12
              refine (HT2.out.rot.has_c HB2.out hn2 HX5.out (b := true) (by simp [hUb])).mono ?_
              rintro e we ⟨rfl, ht, hb⟩
              have HT3a := hide ht
              have HB3 := hide (HB2.out.trans hb)
              clear ht hb
              go_simp
              refine hK.out _ _ ?_ (fun _hS => ?_)
              · exact HC.out _ HB3.out
              clear hK K
              try simp only [Act.put, zps]
              have HT3 := hide HT3a.out.rot
              refine wtk (i := 19) (oi := gB19) (v := ?v19x617) rfl ⟨by rfl, ?hy19x617⟩ (by assumption) ?_
              case hy19x617 => (intro w s; (try dsimp only at s); first | (go_simp; with_reducible rfl) | go_simp)
              try simp only [Act.put, zps]
              refine wtk (i := 20) (oi := gB20) (v := ?v20x618) rfl ⟨by rfl, ?hy20x618⟩ (by assumption) ?_
              case hy20x618 => (intro w s; (try dsimp only at s); first | (go_simp; with_reducible rfl) | go_simp)
              try simp only [Act.put, zps]
              refine wpAnyH_done (by kernel_rfl) ?_ _
              refine NoPanic.normal ?_
              go_wp2
              go_roundw
              case rel => exact ⟨i + 1, by omega, by simp, HT3.out, HB3.out⟩
              case measure => simp [intOf]; omega
            · have HBd := hide HBi.out.drew
              go_wp2
              refine wp_region_noPanic ?_
              refine wp_region_held_drew (S := (fun W => W.cell? ⟨b, off + i, none⟩ = some (.slice x.ka x.key.length x.kc))) (by kernel_rfl) s0 (fun _hS => ?_)
              refine wtk (i := 0) (oi := gC0) (v := ?v0x701) rfl ⟨by rfl, ?hy0x701⟩ (by assumption) ?_
              case hy0x701 => (intro w s; (try dsimp only at s); first | (go_simp; with_reducible rfl) | go_simp)
              try simp only [Act.put, zps]
              refine wtk (i := 1) (oi := gC1) (v := ?v1x702) rfl ⟨by rfl, ?hy1x702⟩ (by assumption) ?_
              case hy1x702 => (intro w s; (try dsimp only at s); first | (go_simp; with_reducible rfl) | go_simp)
              try simp only [Act.put, zps]
              refine wtk (i := 2) (oi := gC2) (v := ?v2x703) rfl ⟨by rfl, ?hy2x703⟩ (by assumption) ?_
              case hy2x703 => (intro w s; (try dsimp only at s); first | (go_simp; with_reducible rfl) | go_simp)
              try simp only [Act.put, zps]
              refine wtk (i := 3) (oi := gC3) (v := ?v3x704) rfl ⟨by rfl, ?hy3x704⟩ (by assumption) ?_
              case hy3x704 => (intro w s; (try dsimp only at s); first | (go_simp; with_reducible rfl) | go_simp)
              try simp only [Act.put, zps]
              refine wtk (i := 6) (oi := gC6) (v := ?v6x705) rfl ⟨by rfl, ?hy6x705⟩ (by assumption) ?_
              case hy6x705 => (intro w s; (try dsimp only at s); first | (go_simp; with_reducible rfl) | go_simp)
              try simp only [Act.put, zps]
              refine wtk (i := 7) (oi := gC7) (v := ?v7x706) rfl ⟨by rfl, ?hy7x706⟩ (by assumption) ?_
              case hy7x706 => (intro w s; (try dsimp only at s); first | (go_simp; with_reducible rfl) | go_simp)
              try simp only [Act.put, zps]
              refine wtk (i := 8) (oi := gC8) (v := ?v8x707) rfl ⟨by rfl, ?hy8x707⟩ (by assumption) ?_
              case hy8x707 => (intro w s; (try dsimp only at s); first | (go_simp; with_reducible rfl) | go_simp)
              try simp only [Act.put, zps]
              refine wtk (i := 9) (oi := gC9) (v := ?v9x708) rfl ⟨by rfl, ?hy9x708⟩ (by assumption) ?_
              case hy9x708 => (intro w s; (try dsimp only at s); first | (go_simp; with_reducible rfl) | go_simp)
              try simp only [Act.put, zps]
              refine wtk (i := 4) (oi := gC4) (v := ?v4x709) rfl ⟨by rfl, ?hy4x709⟩ (by assumption) ?_
              case hy4x709 => (intro w s; (try dsimp only at s); first | (go_simp; with_reducible rfl) | go_simp)
              try simp only [Act.put, zps]
              refine wtk (i := 10) (oi := gC10) (v := ?v10x710) rfl ⟨by rfl, ?hy10x710⟩ (by assumption) ?_
              case hy10x710 => (intro w s; (try dsimp only at s); first | (go_simp; with_reducible rfl) | go_simp)
              try simp only [Act.put, zps]
              refine wpAnyH_ready (rs := [5]) (by kernel_rfl) (by simp) ?_
              refine AllReadyH.cons (o := gC5) rfl (fun K hK => ?_) (AllReadyH.nil)
              go_simp
              go_at_call 12
              refine (HTi.out.drew.has_c HBi.out.drew hld2 HX5.out (b := false) (by simp [HUx.out, hUa, hUb])).mono ?_
              rintro e wc ⟨rfl, ht, hb⟩
              have HT1 := hide ht
              have HB1 := hide (HBd.out.trans hb)
              clear ht hb
              go_simp
              refine hK.out _ _ ?_ (fun _hS => ?_)
              · exact HC.out _ HB1.out
              clear hK K
              try simp only [Act.put, zps]
              refine wpAnyH_ready (rs := [11]) (by kernel_rfl) (by simp) ?_
              refine AllReadyH.cons (o := gC11) rfl (fun K hK => ?_) (AllReadyH.nil)
              go_simp
              go_at_call 12
              refine (HT1.out.rot.has_c HB1.out hn1 HX5.out (b := false) (by simp [hUa])).mono ?_
              rintro e wd ⟨rfl, ht, hb⟩
              have HT2 := hide ht
              have HB2 := hide (HB1.out.trans hb)
              clear ht hb
              go_simp
              refine hK.out _ _ ?_ (fun _hS => ?_)
              · exact HC.out _ HB2.out
              clear hK K
              try simp only [Act.put, zps]
              refine wtk (i := 12) (oi := gC12) (v := ?v12x711) rfl ⟨by rfl, ?hy12x711⟩ (by assumption) ?_
              case hy12x711 => (intro w s; (try dsimp only at s); first | (go_simp; with_reducible rfl) | go_simp)
              try simp only [Act.put, zps]
              refine wtk (i := 13) (oi := gC13) (v := ?v13x712) rfl ⟨by rfl, ?hy13x712⟩ (by assumption) ?_
              case hy13x712 => (intro w s; (try dsimp only at s); first | (go_simp; with_reducible rfl) | go_simp)
              try simp only [Act.put, zps]
              refine wtk (i := 14) (oi := gC14) (v := ?v14x713) rfl ⟨by rfl, ?hy14x713⟩ (by assumption) ?_
              case hy14x713 => (intro w s; (try dsimp only at s); first | (go_simp; with_reducible rfl) | go_simp)
              try simp only [Act.put, zps]
              refine wtk (i := 15) (oi := gC15) (v := ?v15x714) rfl ⟨by rfl, ?hy15x714⟩ (by assumption) ?_
              case hy15x714 => (intro w s; (try dsimp only at s); first | (go_simp; with_reducible rfl) | go_simp)
              try simp only [Act.put, zps]
              refine wtk (i := 16) (oi := gC16) (v := ?v16x715) rfl ⟨by rfl, ?hy16x715⟩ (by assumption) ?_
              case hy16x715 => (intro w s; (try dsimp only at s); first | (go_simp; with_reducible rfl) | go_simp)
              try simp only [Act.put, zps]
              refine wtk (i := 17) (oi := gC17) (v := ?v17x716) rfl ⟨by rfl, ?hy17x716⟩ (by assumption) ?_
              case hy17x716 => (intro w s; (try dsimp only at s); first | (go_simp; with_reducible rfl) | go_simp)
              try simp only [Act.put, zps]
              refine wpAnyH_ready (rs := [18]) (by kernel_rfl) (by simp) ?_
              refine AllReadyH.cons (o := gC18) rfl (fun K hK => ?_) (AllReadyH.nil)
              go_simp
              go_at_call 12
              refine (HT2.out.rot.has_c HB2.out hn2 HX5.out (b := false) (by simp [hUb])).mono ?_
              rintro e we ⟨rfl, ht, hb⟩
              have HT3a := hide ht
              have HB3 := hide (HB2.out.trans hb)
              clear ht hb
              go_simp
              refine hK.out _ _ ?_ (fun _hS => ?_)
              · exact HC.out _ HB3.out
              clear hK K
              try simp only [Act.put, zps]
              have HT3 := hide HT3a.out.rot
              refine wtk (i := 19) (oi := gC19) (v := ?v19x717) rfl ⟨by rfl, ?hy19x717⟩ (by assumption) ?_
              case hy19x717 => (intro w s; (try dsimp only at s); first | (go_simp; with_reducible rfl) | go_simp)
              try simp only [Act.put, zps]
              refine wtk (i := 20) (oi := gC20) (v := ?v20x718) rfl ⟨by rfl, ?hy20x718⟩ (by assumption) ?_
              case hy20x718 => (intro w s; (try dsimp only at s); first | (go_simp; with_reducible rfl) | go_simp)
              try simp only [Act.put, zps]
              refine wpAnyH_done (by kernel_rfl) ?_ _
              refine NoPanic.normal ?_
              go_wp2
              go_roundw
              case rel => exact ⟨i + 1, by omega, by simp, HT3.out, HB3.out⟩
              case measure => simp [intOf]; omega
        · have hie : i = an := by omega
          subst hie
          have f1 : ¬ (i : Int) < (i : Int) := by omega
          have HMo := hide (Mks.or HUo.out qs)
          by_cases hMa : Mks La qs
          · go_wp2_with fail
            refine (HTi.out.meets_c HBi.out hld2 HA5.out (b := true) (by simp [HMo.out, hMa])).mono ?_
            rintro e wc ⟨rfl, ht, hb⟩
            have HT1 := hide ht
            have HB1 := hide (HBi.out.trans hb)
            clear ht hb
            go_wp2_with fail
            refine (HT1.out.rot.meets_c HB1.out hn1 HA5.out (b := true) (by simp [hMa])).mono ?_
            rintro e wd ⟨rfl, ht, hb⟩
            have HT2 := hide ht
            have HB2 := hide (HB1.out.trans hb)
            clear ht hb
            have HB3 := HB2
            go_wp2
            go_ret
            exact ⟨rfl, HB5.out.trans (HB3.out.mono HB5.out.size)⟩
          · by_cases hMb : Mks Lb qs
            · go_wp2_with fail
              refine (HTi.out.meets_c HBi.out hld2 HA5.out (b := true) (by simp [HMo.out, hMb])).mono ?_
              rintro e wc ⟨rfl, ht, hb⟩
              have HT1 := hide ht
              have HB1 := hide (HBi.out.trans hb)
              clear ht hb
              go_wp2_with fail
              refine (HT1.out.rot.meets_c HB1.out hn1 HA5.out (b := false) (by simp [hMa])).mono ?_
              rintro e wd ⟨rfl, ht, hb⟩
              have HT2 := hide ht
              have HB2 := hide (HB1.out.trans hb)
              clear ht hb
              go_wp2_with fail
              refine (HT2.out.rot.meets_c HB2.out hn2 HA5.out (b := true) (by simp [hMb])).mono ?_
              rintro e we ⟨rfl, ht, hb⟩
              have HT3 := hide ht
              have HB3 := hide (HB2.out.trans hb)
              clear ht hb
              go_wp2
              go_ret
              exact ⟨rfl, HB5.out.trans (HB3.out.mono HB5.out.size)⟩
            · go_wp2_with fail
              refine (HTi.out.meets_c HBi.out hld2 HA5.out (b := false) (by simp [HMo.out, hMa, hMb])).mono ?_
              rintro e wc ⟨rfl, ht, hb⟩
              have HT1 := hide ht
              have HB1 := hide (HBi.out.trans hb)
              clear ht hb
              go_wp2_with fail
              refine (HT1.out.rot.meets_c HB1.out hn1 HA5.out (b := false) (by simp [hMa])).mono ?_
              rintro e wd ⟨rfl, ht, hb⟩
              have HT2 := hide ht
              have HB2 := hide (HB1.out.trans hb)
              clear ht hb
              go_wp2_with fail
              refine (HT2.out.rot.meets_c HB2.out hn2 HA5.out (b := false) (by simp [hMb])).mono ?_
              rintro e we ⟨rfl, ht, hb⟩
              have HT3 := hide ht
              have HB3 := hide (HB2.out.trans hb)
              clear ht hb
              go_wp2
              go_ret
              exact ⟨rfl, HB5.out.trans (HB3.out.mono HB5.out.size)⟩
end Go.Proofs.Ytpoanlbjhhlagaa
