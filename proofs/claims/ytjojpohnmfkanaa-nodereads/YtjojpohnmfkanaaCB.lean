/- Keys compared; which values may be. -/
import Derived.Test.YtjojpohnmfkanaaSB
import Derived.Lib.Bytealg
import Derived.Lib.BytesEntry
namespace Go.Proofs.Ytjojpohnmfkanaa
open Go.RowKit
set_option linter.unusedVariables false

theorem ordI_bytes (xs ys : List Int) (hx : Byts xs) (hy : Byts ys) : Lib.compareBytes (Lib.bytesOf xs) (Lib.bytesOf ys) = ordI xs ys := by
  induction xs generalizing ys with
  | nil => cases ys <;> simp [Lib.bytesOf, Lib.compareBytes, ordI]
  | cons x xs ih => cases ys with
    | nil => simp [Lib.bytesOf, Lib.compareBytes, ordI]
    | cons y ys =>
      have h1 := hx x (by simp)
      have h2 := hy y (by simp)
      have ih' := ih ys (fun c hc => hx c (by simp [hc])) (fun c hc => hy c (by simp [hc]))
      have e1 : ∀ z zs, Lib.bytesOf (z :: zs) = UInt8.ofNat z.toNat :: Lib.bytesOf zs := fun z zs => by simp [Lib.bytesOf]
      rw [e1, e1, Lib.compareBytes, ih']
      rw [show ordI (x :: xs) (y :: ys) = if x < y then -1 else if y < x then 1 else ordI xs ys from rfl]
      have l1 := u8_lt x y h1 h2
      have l2 := u8_lt y x h2 h1
      by_cases hlt : x < y
      · rw [if_pos (l1.2 hlt), if_pos hlt]
      · rw [if_neg (fun h => hlt (l1.1 h)), if_neg hlt]
        by_cases hgt : y < x
        · rw [if_pos (l2.2 hgt), if_pos hgt]
        · rw [if_neg (fun h => hgt (l2.1 h)), if_neg hgt]
theorem run_bytesOf {w : World} {a : Option Addr} {n c : Nat} {zs : List Int} (h : Inn w a n c zs) : (Extern.Bytes.bytesOf (.slice a n c)).run Try.prog w = .ok ⟨(Lib.bytesOf zs).toArray⟩ w := by
  cases a with
  | none =>
    obtain ⟨rfl, rfl⟩ := h.bare rfl
    have e : zs = [] := List.eq_nil_of_length_eq_zero h.len
    subst e
    rfl
  | some ad =>
    have hl := Lib.run_loadBytesX (P := Try.prog) (w := w) zs ad .empty (fun j x hj => by
      rcases h.row with rfl | ⟨b, off, e, _, hc⟩
      · simp at hj
      · obtain rfl := Option.some.inj e
        obtain ⟨hj', rfl⟩ := List.getElem?_eq_some_iff.1 hj
        rw [Addr.add_lit, hc j hj']
        simp [hj'])
    rw [h.len] at hl
    simp only [Extern.Bytes.bytesOf, hl]
    simp [ByteArray.empty, ByteArray.emptyWithCapacity]
    rfl
theorem run_compare {w : World} {a b : Option Addr} {n c m d : Nat} {xs ys : List Int} (h : Inn w a n c xs) (k : Inn w b m d ys) : (Extern.BytealgCompare.compare #[.slice a n c, .slice b m d]).run Try.prog w = .ok (.int .i64 (ordI xs ys)) w := by
  change Sem.run Try.prog (do pure (goInt (Extern.BytealgCompare.cmp (← Extern.Bytes.bytesOf (.slice a n c)) (← Extern.Bytes.bytesOf (.slice b m d))))) w = _
  simp only [Sem.run_bind, Sem.run_pure, run_bytesOf h, run_bytesOf k, Result.andThen]
  rw [Lib.cmp_eq]
  simp only [goInt]
  rw [ordI_bytes xs ys h.byts k.byts]
set_option maxHeartbeats 800000 in
set_option maxRecDepth 1000000 in
theorem compare_any {w : World} {a b : Option Addr} {n c m d : Nat} {xs ys : List Int} (h : Inn w a n c xs) (k : Inn w b m d ys) :
    Calls Try.prog 68 #[.slice a n c, .slice b m d] w fun e w' => e = .returned (.int .i64 (ordI xs ys)) ∧ w' = w := by
  have hr := run_compare h k
  clear h k
  go_enter Try.func68, Try.ntmps68
  go_wp2
  rw [run_callFunc_extern Try.func81 (by kernel_rfl) (by kernel_rfl) (by kernel_rfl) (e := Extern.BytealgCompare.compare) (by kernel_rfl), hr]
  simp only [Result.andThen]
  rw [Oper.upon_value]
  go_wp2
  go_ret
  exact ⟨rfl, rfl⟩
set_option maxHeartbeats 800000 in
theorem page_any (p : Nat) (w : World) : Calls Try.prog 95 #[.int .u32 (p : Int)] w fun e w' => e = .returned (.bool (pageOk p)) ∧ w' = w := by
  by_cases h1 : 2 ≤ p
  · by_cases h2 : p < 16384
    · have d1 : (2 : Int) ≤ (p : Int) := by omega
      have d2 : (p : Int) < 16384 := by omega
      go_enter Try.func95, Try.ntmps95
      go_wp2
      go_ret
      exact ⟨by simp [pageOk, h1, h2], rfl⟩
    · have d1 : (2 : Int) ≤ (p : Int) := by omega
      have d2 : ¬ (p : Int) < 16384 := by omega
      go_enter Try.func95, Try.ntmps95
      go_wp2
      go_ret
      exact ⟨by simp [pageOk, h1, h2], rfl⟩
  · have d1 : ¬ (2 : Int) ≤ (p : Int) := by omega
    go_enter Try.func95, Try.ntmps95
    go_wp2
    go_ret
    exact ⟨by simp [pageOk, h1], rfl⟩
end Go.Proofs.Ytjojpohnmfkanaa
/- Which values may be. -/
namespace Go.Proofs.Ytjojpohnmfkanaa
open Go.RowKit
set_option linter.unusedVariables false

set_option maxHeartbeats 1600000 in
set_option maxRecDepth 1000000 in
theorem small_any (x : En) (w : World) (hv : x.e.val.length ≤ 9223372036854775807) :
    Calls Try.prog 94 #[.agg #[.slice x.ka x.e.key.length x.kc, .slice x.va x.e.val.length x.vc, .int .u32 (x.e.page : Int), .int .u32 (x.e.size : Int)]] w fun e w' => e = .returned (.bool x.e.small) ∧ Below w.heap.size w w' := by
  obtain ⟨e, ka, kc, va, vc⟩ := x
  obtain ⟨key, val, page, size⟩ := e
  simp only [] at hv ⊢
  obtain ⟨b0, b1, b2, b3⟩ := box4 w (.slice ka key.length kc) (.slice va val.length vc) (.int .u32 (page : Int)) (.int .u32 (size : Int)) 68
  have HB := hide (below_alloc w (.cells #[.slice ka key.length kc, .slice va val.length vc, .int .u32 (page : Int), .int .u32 (size : Int)] 68))
  by_cases h1 : val.length ≤ 64
  · by_cases h2 : page = 0
    · subst h2
      by_cases h3 : size = 0
      · subst h3
        have d1 : (val.length : Int) ≤ 64 := by omega
        go_enter Try.func94, Try.ntmps94
        go_wp2
        go_ret
        exact ⟨by simp [Ee.small, h1], HB.out⟩
      · have d1 : (val.length : Int) ≤ 64 := by omega
        have d3 : ((size : Int) == 0) = false := by simp; omega
        go_enter Try.func94, Try.ntmps94
        go_wp2
        go_ret
        exact ⟨by simp [Ee.small, h1, h3], HB.out⟩
    · have d1 : (val.length : Int) ≤ 64 := by omega
      have d2 : ((page : Int) == 0) = false := by simp; omega
      go_enter Try.func94, Try.ntmps94
      go_wp2
      go_ret
      exact ⟨by simp [Ee.small, h2], HB.out⟩
  · have d1 : ¬ (val.length : Int) ≤ 64 := by omega
    go_enter Try.func94, Try.ntmps94
    go_wp2
    go_ret
    exact ⟨by simp [Ee.small, h1], HB.out⟩
set_option maxHeartbeats 1600000 in
set_option maxRecDepth 1000000 in
theorem great_any (x : En) (w : World) (hv : x.e.val.length ≤ 9223372036854775807) :
    Calls Try.prog 87 #[.agg #[.slice x.ka x.e.key.length x.kc, .slice x.va x.e.val.length x.vc, .int .u32 (x.e.page : Int), .int .u32 (x.e.size : Int)]] w fun e w' => e = .returned (.bool x.e.great) ∧ Below w.heap.size w w' := by
  obtain ⟨e, ka, kc, va, vc⟩ := x
  obtain ⟨key, val, page, size⟩ := e
  simp only [] at hv ⊢
  have HD : Hid ((⟨key, val, page, size⟩ : Ee).great = (decide (val.length = 0) && (pageOk page && (decide (64 < size) && decide (size ≤ 8192))))) := hide rfl
  generalize (⟨key, val, page, size⟩ : Ee).great = G at *
  generalize val.length = vl at *
  obtain ⟨b0, b1, b2, b3⟩ := box4 w (.slice ka key.length kc) (.slice va vl vc) (.int .u32 (page : Int)) (.int .u32 (size : Int)) 68
  have HB := hide (below_alloc w (.cells #[.slice ka key.length kc, .slice va vl vc, .int .u32 (page : Int), .int .u32 (size : Int)] 68))
  have HP := hide (fun W => page_any page W)
  generalize pageOk page = B at *
  by_cases h1 : vl = 0
  · subst h1
    cases B with
    | false =>
      go_enter Try.func87, Try.ntmps87
      go_wp2_with (go_at_call 95; refine (HP.out _).mono ?_; rintro e w2 ⟨rfl, rfl⟩)
      go_ret
      exact ⟨by rw [HD.out]; simp, HB.out⟩
    | true =>
      by_cases h2 : 64 < size
      · have d2 : (64 : Int) < (size : Int) := by omega
        go_enter Try.func87, Try.ntmps87
        go_wp2_with (go_at_call 95; refine (HP.out _).mono ?_; rintro e w2 ⟨rfl, rfl⟩)
        go_ret
        exact ⟨by rw [HD.out]; simp [h2] <;> omega, HB.out⟩
      · have d2 : ¬ (64 : Int) < (size : Int) := by omega
        go_enter Try.func87, Try.ntmps87
        go_wp2_with (go_at_call 95; refine (HP.out _).mono ?_; rintro e w2 ⟨rfl, rfl⟩)
        go_ret
        exact ⟨by rw [HD.out]; simp [h2], HB.out⟩
  · have d1 : ((vl : Int) == 0) = false := by simp; omega
    go_enter Try.func87, Try.ntmps87
    go_wp2
    go_ret
    exact ⟨by rw [HD.out]; simp [h1], HB.out⟩
set_option maxHeartbeats 1600000 in
set_option maxRecDepth 1000000 in
theorem kid_any (x : En) (w : World) (hv : x.e.val.length ≤ 9223372036854775807) :
    Calls Try.prog 85 #[.agg #[.slice x.ka x.e.key.length x.kc, .slice x.va x.e.val.length x.vc, .int .u32 (x.e.page : Int), .int .u32 (x.e.size : Int)]] w fun e w' => e = .returned (.bool x.e.kid) ∧ Below w.heap.size w w' := by
  obtain ⟨e, ka, kc, va, vc⟩ := x
  obtain ⟨key, val, page, size⟩ := e
  simp only [] at hv ⊢
  have HD : Hid ((⟨key, val, page, size⟩ : Ee).kid = (decide (val.length = 0) && (pageOk page && decide (size = 0)))) := hide rfl
  generalize (⟨key, val, page, size⟩ : Ee).kid = G at *
  generalize val.length = vl at *
  obtain ⟨b0, b1, b2, b3⟩ := box4 w (.slice ka key.length kc) (.slice va vl vc) (.int .u32 (page : Int)) (.int .u32 (size : Int)) 68
  have HB := hide (below_alloc w (.cells #[.slice ka key.length kc, .slice va vl vc, .int .u32 (page : Int), .int .u32 (size : Int)] 68))
  have HP := hide (fun W => page_any page W)
  generalize pageOk page = B at *
  by_cases h1 : vl = 0
  · subst h1
    cases B with
    | false =>
      go_enter Try.func85, Try.ntmps85
      go_wp2_with (go_at_call 95; refine (HP.out _).mono ?_; rintro e w2 ⟨rfl, rfl⟩)
      go_ret
      exact ⟨by rw [HD.out]; simp, HB.out⟩
    | true =>
      by_cases h2 : size = 0
      · subst h2
        go_enter Try.func85, Try.ntmps85
        go_wp2_with (go_at_call 95; refine (HP.out _).mono ?_; rintro e w2 ⟨rfl, rfl⟩)
        go_ret
        exact ⟨by rw [HD.out]; simp, HB.out⟩
      · have d2 : ((size : Int) == 0) = false := by simp; omega
        go_enter Try.func85, Try.ntmps85
        go_wp2_with (go_at_call 95; refine (HP.out _).mono ?_; rintro e w2 ⟨rfl, rfl⟩)
        go_ret
        exact ⟨by rw [HD.out]; simp [h2], HB.out⟩
  · have d1 : ((vl : Int) == 0) = false := by simp; omega
    go_enter Try.func85, Try.ntmps85
    go_wp2
    go_ret
    exact ⟨by rw [HD.out]; simp [h1], HB.out⟩
set_option maxHeartbeats 1600000 in
set_option maxRecDepth 1000000 in
theorem val_any (x : En) (w : World) (hv : x.e.val.length ≤ 9223372036854775807) :
    Calls Try.prog 84 #[.agg #[.slice x.ka x.e.key.length x.kc, .slice x.va x.e.val.length x.vc, .int .u32 (x.e.page : Int), .int .u32 (x.e.size : Int)]] w fun e w' => e = .returned (.bool x.e.valOk) ∧ Below w.heap.size w w' := by
  obtain ⟨b0, b1, b2, b3⟩ := box4 w (.slice x.ka x.e.key.length x.kc) (.slice x.va x.e.val.length x.vc) (.int .u32 (x.e.page : Int)) (.int .u32 (x.e.size : Int)) 68
  have hB1 := below_alloc w (.cells #[.slice x.ka x.e.key.length x.kc, .slice x.va x.e.val.length x.vc, .int .u32 (x.e.page : Int), .int .u32 (x.e.size : Int)] 68)
  have hbl := heap_alloc_new w (.cells #[.slice x.ka x.e.key.length x.kc, .slice x.va x.e.val.length x.vc, .int .u32 (x.e.page : Int), .int .u32 (x.e.size : Int)] 68)
  have HS := hide (fun W => small_any x W hv)
  have HG := hide (fun W => great_any x W hv)
  have HD : Hid (x.e.valOk = (x.e.small || x.e.great)) := hide rfl
  have HB1 := hide hB1
  have HBl := hide hbl
  have hlt := lt_of_block hbl
  have HLt := hide hlt
  clear hB1 hbl hlt
  generalize x.e.valOk = V at *
  generalize x.e.small = S at *
  generalize x.e.great = G at *
  cases S with
  | true =>
    go_enter Try.func84, Try.ntmps84
    go_wp2_with (go_at_call 94; refine (HS.out _).mono ?_; rintro e w2 ⟨rfl, hb2⟩)
    go_ret
    exact ⟨by rw [HD.out]; simp, HB1.out.trans (hb2.mono HB1.out.size)⟩
  | false =>
    go_enter Try.func84, Try.ntmps84
    go_wp2_with fail
    refine (HS.out _).mono ?_
    rintro e w2 ⟨rfl, hb2⟩
    obtain ⟨g0, g1, g2, g3, -⟩ := cells_four ((hb2.block _ HLt.out).trans HBl.out)
    have HB2 := hide (HB1.out.trans (hb2.mono HB1.out.size))
    clear hb2
    go_wp2_with (go_at_call 87; refine (HG.out _).mono ?_; rintro e w3 ⟨rfl, hb3⟩)
    go_ret
    exact ⟨by rw [HD.out]; simp, HB2.out.trans (hb3.mono HB2.out.size)⟩
end Go.Proofs.Ytjojpohnmfkanaa
