/- Contract of the document's reader: texts. -/
import Derived.Test.YtobkmjkcbihfbaaXe
namespace Go.Proofs.Ytobkmjkcbihfbaa
open Go.RowKit
set_option linter.unusedVariables false

theorem nm_zero (bs : List Int) (i e : Nat) (h : (nm bs i e).2.2 ≠ 0) : (nm bs i e).1 = 0 ∧ (nm bs i e).2.1 = 0 := by
  by_cases he : e = 0
  · subst he
    rw [nm_ok] at h ⊢
    exact vgo_zero _ _ _ h
  · rw [nm_err _ _ _ he]; exact ⟨rfl, rfl⟩
theorem rt_err (bs : List Int) (i e : Nat) (hi : i ≤ bs.length) (h : (nm bs i e).2.2 ≠ 0) : rt bs i e = ([], i, (nm bs i e).2.2) := by
  obtain ⟨h1, h2⟩ := nm_zero bs i e h
  rw [rt_ok bs i e (by rw [h1]; omega), h1, h2]
  simp only [Int.ofNat_zero]
  rw [tk_zero bs i _ hi]
  simp only []
  rw [tk_zero bs i _ hi]

set_option maxHeartbeats 1600000 in
set_option maxRecDepth 1000000 in
theorem xtext_any (p : Nat) (a : Option Addr) (c : Nat) (bs : List Int) (i e : Nat) (w : World) (hr : Xd w p a c bs i e) :
    Calls Try.prog 74 #[.pointer (some ⟨p, 0, none⟩)] w fun r w' => r = .returned (.string (bk (rt bs i e).1)) ∧ Xd w' p a c bs (rt bs i e).2.1 (rt bs i e).2.2 ∧ w.grownBy w' (some p) := by
  have HC := hide (xvar_any p a c bs i e w hr)
  have k1 := hr.c1
  have hle := hr.le
  have hsm := hr.small
  have hM := nm_small bs i e
  have hV := nm_lt bs i e hr.byts
  have HBy := hide hr.byts
  have HE := hide (rt_err bs i e hle)
  have HS := hide (rt_short bs i e)
  have HO := hide (rt_ok bs i e)
  clear hr
  generalize hVV : (nm bs i e).1 = V at *
  generalize hMM : (nm bs i e).2.1 = M at *
  generalize hXX : (nm bs i e).2.2 = X at *
  clear hVV hMM hXX
  go_enter Try.func74, Try.ntmps74
  go_wp2_with fail
  refine HC.out.mono ?_
  rintro r w1 ⟨rfl, hrd, hg⟩
  have HR1 := hide hrd
  have HG1 := hide hg
  clear hrd hg HC k1
  by_cases hx : X = 0
  · subst hx
    have HTm := hide (tk_ok bs i M (by omega))
    rw [HTm.out] at HR1 HO
    simp only [] at HR1 HO
    have k1 := HR1.out.c1
    have k2 := HR1.out.c2
    have k0 := HR1.out.c0
    have hle2 := HR1.out.le
    by_cases hsh : bs.length - i - M < V
    · have HT := hide (HS.out hsh)
      have hd : ((bs.length : Int) - ((i + M : Nat) : Int)) < (V : Int) := by omega
      have hf : ferr 0 20 = 20 := rfl
      rw [hf] at HT
      have HLe := hide hle
      generalize hs : i + M = s at *
      clear hs HO HS HE
      generalize hN : bs.length = N at *
      have HN := hide hN
      clear hN
      go_wp2
      go_quiet (fail)
      have HR2 := hide (HR1.out.drewN nq)
      have HG2 := hide (grown_drewN HG1.out nq)
      generalize w1.drewN nq = W at *
      have k11 := HR2.out.c1
      have f11 := HR2.out.f 1
      have HXs := hide (HR2.out.setAt i (by have := HN.out; omega))
      clear k0 k1 k2 HR1 HG1
      go_wp2_with fail
      refine (xfail_any p a c bs i 20 _ HXs.out (by omega) (by omega)).mono ?_
      rintro r w3 ⟨rfl, hr3, hg3⟩
      have HR3 := hide hr3
      have HG3 := hide (grown_trans HG2.out (grown_trans (grown_setCell _ _ _ _) hg3))
      clear hr3 hg3
      go_wp2
      go_ret
      exact ⟨by rw [HT.out]; rfl, by rw [HT.out]; exact HR3.out, HG3.out⟩
    · have HT := hide (HO.out hsh)
      have hd : ¬ ((bs.length : Int) - ((i + M : Nat) : Int)) < (V : Int) := by omega
      have hV2 : V ≤ 100000000000000 := by omega
      generalize hs : i + M = s at *
      clear hs HO HS HE
      generalize hN : bs.length = N at *
      have HN := hide hN
      clear hN
      go_wp2
      go_quiet (fail)
      have HR2 := hide (HR1.out.drewN nq)
      have HG2 := hide (grown_drewN HG1.out nq)
      generalize w1.drewN nq = W at *
      clear k0 k1 k2 HR1 HG1
      go_wp2_with fail
      refine (xraw_any p a c bs s 0 (V : Int) _ HR2.out (by omega) (by omega)).mono ?_
      rintro r w3 ⟨a2, m2, c2, rfl, hlen, hbare, hrow, -, hr3, hg3⟩
      have HR3 := hide hr3
      have HG3 := hide (grown_trans HG2.out hg3)
      have hcv := run_text w3 a2 m2 c2 _ hlen hbare hrow (tk_byts _ _ _ _ HBy.out)
      clear hlen hbare hrow hr3 hg3
      go_wp2
      go_ret
      exact ⟨by rw [HT.out]; rfl, by rw [HT.out]; exact HR3.out, HG3.out⟩
  · have HT := hide (HE.out hx)
    have HTz := hide (tk_err bs i X (M : Int) hx)
    rw [HTz.out] at HR1
    simp only [] at HR1
    have k2 := HR1.out.c2
    have hne : ((X : Int) != 0) = true := by simp; omega
    clear HO HS HE
    go_wp2
    go_ret
    exact ⟨by rw [HT.out]; rfl, by rw [HT.out]; exact HR1.out, HG1.out⟩
end Go.Proofs.Ytobkmjkcbihfbaa
