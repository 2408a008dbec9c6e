/- Keys compared. -/
import Derived.Test.YtpoanlbjhhlagaaE
import Derived.Lib.Bytealg
import Derived.Lib.BytesEntry
namespace Go.Proofs.Ytpoanlbjhhlagaa
open Go.RowKit
set_option linter.unusedVariables false

theorem ordI_bytes (xs ys : List Int) (hx : Byts xs) (hy : Byts ys) : Lib.compareBytes (Lib.bytesOf xs) (Lib.bytesOf ys) = ordI xs ys := by
  induction xs generalizing ys with
  | nil => cases ys <;> simp [Lib.bytesOf, Lib.compareBytes, ordI]
  | cons x xs ih => cases ys with
    | nil => simp [Lib.bytesOf, Lib.compareBytes, ordI]
    | cons y ys =>
      have h1 := hx x (by simp)
      have h2 := hy y (by simp)
      have ih' := ih ys (fun c hc => hx c (by simp [hc])) (fun c hc => hy c (by simp [hc]))
      have e1 : ∀ z zs, Lib.bytesOf (z :: zs) = UInt8.ofNat z.toNat :: Lib.bytesOf zs := fun z zs => by simp [Lib.bytesOf]
      rw [e1, e1, Lib.compareBytes, ih']
      rw [show ordI (x :: xs) (y :: ys) = if x < y then -1 else if y < x then 1 else ordI xs ys from rfl]
      have l1 := u8_lt x y h1 h2
      have l2 := u8_lt y x h2 h1
      by_cases hlt : x < y
      · rw [if_pos (l1.2 hlt), if_pos hlt]
      · rw [if_neg (fun h => hlt (l1.1 h)), if_neg hlt]
        by_cases hgt : y < x
        · rw [if_pos (l2.2 hgt), if_pos hgt]
        · rw [if_neg (fun h => hgt (l2.1 h)), if_neg hgt]
theorem run_bytesOf {w : World} {a : Option Addr} {n c : Nat} {zs : List Int} (h : Inn w a n c zs) : (Extern.Bytes.bytesOf (.slice a n c)).run Try.prog w = .ok ⟨(Lib.bytesOf zs).toArray⟩ w := by
  cases a with
  | none =>
    obtain ⟨rfl, rfl⟩ := h.bare rfl
    have e : zs = [] := List.eq_nil_of_length_eq_zero h.len
    subst e
    rfl
  | some ad =>
    have hl := Lib.run_loadBytesX (P := Try.prog) (w := w) zs ad .empty (fun j x hj => by
      rcases h.row with rfl | ⟨b, off, e, _, hc⟩
      · simp at hj
      · obtain rfl := Option.some.inj e
        obtain ⟨hj', rfl⟩ := List.getElem?_eq_some_iff.1 hj
        rw [Addr.add_lit, hc j hj']
        simp [hj'])
    rw [h.len] at hl
    simp only [Extern.Bytes.bytesOf, hl]
    simp [ByteArray.empty, ByteArray.emptyWithCapacity]
    rfl
theorem run_compare {w : World} {a b : Option Addr} {n c m d : Nat} {xs ys : List Int} (h : Inn w a n c xs) (k : Inn w b m d ys) : (Extern.BytealgCompare.compare #[.slice a n c, .slice b m d]).run Try.prog w = .ok (.int .i64 (ordI xs ys)) w := by
  change Sem.run Try.prog (do pure (goInt (Extern.BytealgCompare.cmp (← Extern.Bytes.bytesOf (.slice a n c)) (← Extern.Bytes.bytesOf (.slice b m d))))) w = _
  simp only [Sem.run_bind, Sem.run_pure, run_bytesOf h, run_bytesOf k, Result.andThen]
  rw [Lib.cmp_eq]
  simp only [goInt]
  rw [ordI_bytes xs ys h.byts k.byts]
set_option maxHeartbeats 800000 in
set_option maxRecDepth 1000000 in
theorem compare_any {w : World} {a b : Option Addr} {n c m d : Nat} {xs ys : List Int} (h : Inn w a n c xs) (k : Inn w b m d ys) :
    Calls Try.prog 68 #[.slice a n c, .slice b m d] w fun e w' => e = .returned (.int .i64 (ordI xs ys)) ∧ w' = w := by
  have hr := run_compare h k
  clear h k
  go_enter Try.func68, Try.ntmps68
  go_wp2
  rw [run_callFunc_extern Try.func73 (by kernel_rfl) (by kernel_rfl) (by kernel_rfl) (e := Extern.BytealgCompare.compare) (by kernel_rfl), hr]
  simp only [Result.andThen]
  rw [Oper.upon_value]
  go_wp2
  go_ret
  exact ⟨rfl, rfl⟩
end Go.Proofs.Ytpoanlbjhhlagaa
