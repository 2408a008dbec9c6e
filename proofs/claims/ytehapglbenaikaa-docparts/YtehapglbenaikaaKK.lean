/- The known document: its tree, its bytes. -/
import Derived.Test.YtehapglbenaikaaKI
import Derived.Test.YtehapglbenaikaaKJ
namespace Go.Proofs.Ytehapglbenaikaa
open Go.RowKit
set_option linter.unusedVariables false

/-- the known document, its fields in block b. -/
def kd (b : Nat) : T := .mk 7 false 0 ⟨#[]⟩ none 0 [] none 0 .nil (some ⟨b, 0, none⟩) 2 (.cons ⟨#[97]⟩ (.mk 3 false 1 ⟨#[]⟩ none 0 [] none 0 .nil none 0 .nil) (.cons ⟨#[98]⟩ (.mk 4 false 0 ⟨#[120]⟩ none 0 [] none 0 .nil none 0 .nil) .nil))
def kb : List Int := [8, 2, 1, 97, 4, 2, 1, 98, 5, 1, 120]
theorem kd_denc (b : Nat) : (kd b).denc = kb := by
  have z : zz 1 = 2 := by decide
  have e1 := vb_small 2 (by omega)
  have e2 := vb_small 1 (by omega)
  have s1 : ByteArray.size ⟨#[97]⟩ = 1 := rfl
  have s2 : ByteArray.size ⟨#[98]⟩ = 1 := rfl
  have s3 : ByteArray.size ⟨#[120]⟩ = 1 := rfl
  have b1 : sb ⟨#[97]⟩ = [97] := rfl
  have b2 : sb ⟨#[98]⟩ = [98] := rfl
  have b3 : sb ⟨#[120]⟩ = [120] := rfl
  simp [kd, T.denc, FL.denc, FL.list, kb, z, e1, e2, s1, s2, s3, b1, b2, b3]
theorem kd_wt (b : Nat) : (kd b).wt ≤ 100000 := by simp [kd, T.wt, TL.wt, FL.wt, ByteArray.size]
theorem kd_szd (b : Nat) : (kd b).Szd := by simp [kd, T.Szd, TL.Szd, FL.Szd, ByteArray.size]
theorem kd_ck (b : Nat) : ckE (kd b) = 0 := by
  have e : ckE (kd b) = ckE (kd 0) := by
    simp only [ckE, chk, kd, T.flat, TL.flat, FL.flat, firstE, fitE]
    rfl
  rw [e]
  decide +kernel
end Go.Proofs.Ytehapglbenaikaa
