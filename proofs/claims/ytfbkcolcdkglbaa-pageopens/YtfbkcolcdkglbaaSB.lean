/- Whether two rows of bytes are the same; a state that came in. -/
import Derived.Test.YtfbkcolcdkglbaaFR
namespace Go.Proofs.Ytfbkcolcdkglbaa
open Go.ChangeShapes Go.WideShapes Go.ChangeAt Go.RowKit
set_option linter.unusedVariables false

def sameB (xs ys : List Int) : Bool := decide (xs = ys)
theorem sameB_len (xs ys : List Int) (h : xs.length ≠ ys.length) : sameB xs ys = false := by
  unfold sameB; rw [decide_eq_false]; intro e; exact h (by rw [e])
theorem sameB_all (xs ys : List Int) (h : xs.length = ys.length) (h2 : ∀ i, i < xs.length → xs.getD i 0 = ys.getD i 0) : sameB xs ys = true := by
  unfold sameB; rw [decide_eq_true]
  apply List.ext_getElem h
  intro i h3 h4
  have := h2 i h3
  simpa [List.getD_eq_getElem?_getD, h3, h4] using this
theorem sameB_at (xs ys : List Int) (i : Nat) (h : xs.getD i 0 ≠ ys.getD i 0) : sameB xs ys = false := by
  unfold sameB; rw [decide_eq_false]; intro e; exact h (by rw [e])

set_option maxHeartbeats 800000 in
theorem sameb_any (a b : Option Addr) (len len2 cap cap2 : Nat) (xs ys : List Int) (w : World) (hl : xs.length = len) (hl2 : ys.length = len2) (hbig : len ≤ 9223372036854775807) (hbig2 : len2 ≤ 9223372036854775807) (hr : Row w a xs) (hr2 : Row w b ys) :
    Calls Try.prog 16 #[.slice a len cap, .slice b len2 cap2] w fun e w' => e = .returned (.bool (sameB xs ys)) ∧ Below w.heap.size w w' := by
  have HL := hide hl
  have HL2 := hide hl2
  have HR := hide hr
  have HR2 := hide hr2
  clear hl hl2 hr hr2
  by_cases hne : len = len2
  · subst hne
    have hnb : ((len : Int) != (len : Int)) = false := by simp
    go_enter Try.func16, Try.ntmps16
    go_wp2
    go_loopw [5] (fun i wr => ∃ k : Nat, k ≤ len ∧ i = .int .i64 k ∧ (∀ j, j < k → xs.getD j 0 = ys.getD j 0) ∧ Below w.heap.size w wr) (fun i _ => len - (intOf i).toNat)
    case atStart => exact ⟨0, Nat.zero_le _, rfl, fun j hj => by omega, Below.refl _ _⟩
    case round =>
      obtain ⟨k, hk, rfl, hsame, hbel⟩ := hrel
      have HSm := hide hsame
      have HBel := hide hbel
      clear hsame hbel
      by_cases hlt : k < len
      · have hlk : k < xs.length := by have := HL.out; omega
        have hlk2 : k < ys.length := by have := HL2.out; omega
        rcases HR.out.below HBel.out with h0 | ⟨b1, o1, rfl, _, hc1⟩
        · subst h0; simp at hlk
        rcases HR2.out.below HBel.out with h0 | ⟨b2, o2, rfl, _, hc2⟩
        · subst h0; simp at hlk2
        have g1 := hc1 k hlk
        have g2 := hc2 k hlk2
        clear hc1 hc2 hlk hlk2
        by_cases hcc : xs.getD k 0 = ys.getD k 0
        · have HCc := hide hcc
          rw [hcc] at g1
          clear hcc
          generalize ys.getD k 0 = c at g1 g2
          have hbn : (c != c) = false := by simp
          go_wp2
          go_quiet (fail)
          go_wp2
          go_roundw
          case rel => exact ⟨k + 1, by omega, by go_num, fun j hj => by
            by_cases e : j = k
            · subst e; exact HCc.out
            · exact HSm.out j (by omega), below_drewN HBel.out _⟩
          case measure => simp [intOf]; omega
        · have HCc := hide (sameB_at xs ys k hcc)
          have hbn : (xs.getD k 0 != ys.getD k 0) = true := by rw [bne_iff_ne]; exact hcc
          clear hcc
          generalize xs.getD k 0 = c at *
          generalize ys.getD k 0 = d at *
          go_wp2
          go_quiet (fail)
          go_wp2
          go_ret
          exact ⟨by rw [HCc.out]; rfl, below_drewN HBel.out _⟩
      · have HAll := hide (sameB_all xs ys (by rw [HL.out, HL2.out]) (fun i hi => HSm.out i (by have := HL.out; omega)))
        go_wp2
        go_ret
        exact ⟨by rw [HAll.out]; rfl, HBel.out⟩
  · have HS := hide (sameB_len xs ys (by rw [HL.out, HL2.out]; exact hne))
    have hnb : ((len : Int) != (len2 : Int)) = true := by rw [bne_iff_ne]; omega
    go_enter Try.func16, Try.ntmps16
    go_wp2
    go_ret
    exact ⟨by rw [HS.out]; rfl, Below.refl _ _⟩

theorem same_inn {w : World} {a b : Option Addr} {n c m d : Nat} {xs ys : List Int} (hx : Inn w a n c xs) (hy : Inn w b m d ys) :
    Calls Try.prog 16 #[.slice a n c, .slice b m d] w fun e w' => e = .returned (.bool (sameB xs ys)) ∧ Below w.heap.size w w' :=
  sameb_any a b n m c d xs ys w hx.len hy.len (by have := hx.cap; have := hx.max; omega) (by have := hy.cap; have := hy.max; omega) hx.row hy.row

theorem array5 {α : Type} {cs : Array α} (h : cs.size = 5) : ∃ c0 c1 c2 c3 c4, cs = #[c0, c1, c2, c3, c4] := by
  obtain ⟨l⟩ := cs
  match l, h with
  | [c0, c1, c2, c3, c4], _ => exact ⟨c0, c1, c2, c3, c4, rfl⟩
set_option maxRecDepth 100000 in
/-- a state that came in. -/
theorem open_meta {H : Type} {enc : TypeId × Value → H} {w : World} {base : Nat} {spare : Nat → Bool} {held : Bool} {r : Reach} {b0 : Nat} {v : Value} {d : DataW H} {p : List MemPlace}
    (hval : Value.okWide Try.prog w r b0 64 v) (h : DataW.Trod enc Try.prog w base spare held 64 v d p) : ∃ m : Pg.M, v = mv m ∧ m.Fit := by
  obtain ⟨cs, rfl, hsz⟩ := okWide_struct Try.underlying64 hval
  have h5 : Try.prog.cellsOf 64 = 5 := by kernel_rfl
  obtain ⟨c0, c1, c2, c3, c4, rfl⟩ := array5 (hsz.trans h5)
  obtain ⟨fuel, hf⟩ := h
  obtain ⟨xs, n, -, -, -, hlen, hx⟩ := DataW.trod_struct Try.underlying64 hf
  have k62 : Try.prog.cellsOf 62 = 1 := by kernel_rfl
  have k22 : Try.prog.cellsOf 22 = 1 := by kernel_rfl
  match xs, hlen with
  | [y0, y1, y2, y3, y4], _ =>
    have e0 : DataW.trod enc Try.prog w base spare held n 62 [c0] = some y0 := by have h := hx 0 _ rfl; simpa [Value.cells, k62] using h
    have e1 : DataW.trod enc Try.prog w base spare held n 22 [c1] = some y1 := by have h := hx 1 _ rfl; simpa [Value.cells, k22] using h
    have e2 : DataW.trod enc Try.prog w base spare held n 22 [c2] = some y2 := by have h := hx 2 _ rfl; simpa [Value.cells, k22] using h
    have e3 : DataW.trod enc Try.prog w base spare held n 22 [c3] = some y3 := by have h := hx 3 _ rfl; simpa [Value.cells, k22] using h
    have e4 : DataW.trod enc Try.prog w base spare held n 62 [c4] = some y4 := by have h := hx 4 _ rfl; simpa [Value.cells, k62] using h
    obtain ⟨z0, q0, -, f0⟩ := DataW.trod_int Try.underlying62 e0
    obtain ⟨z1, q1, -, f1⟩ := DataW.trod_int Try.underlying22 e1
    obtain ⟨z2, q2, -, f2⟩ := DataW.trod_int Try.underlying22 e2
    obtain ⟨z3, q3, -, f3⟩ := DataW.trod_int Try.underlying22 e3
    obtain ⟨z4, q4, -, f4⟩ := DataW.trod_int Try.underlying62 e4
    simp only [List.cons.injEq, and_true] at q0 q1 q2 q3 q4
    subst q0 q1 q2 q3 q4
    have g0 := bounds_u64 f0
    have g1 := bounds_u32 f1
    have g2 := bounds_u32 f2
    have g3 := bounds_u32 f3
    have g4 := bounds_u64 f4
    obtain ⟨n0, rfl⟩ := Int.eq_ofNat_of_zero_le g0.1
    obtain ⟨n1, rfl⟩ := Int.eq_ofNat_of_zero_le g1.1
    obtain ⟨n2, rfl⟩ := Int.eq_ofNat_of_zero_le g2.1
    obtain ⟨n3, rfl⟩ := Int.eq_ofNat_of_zero_le g3.1
    obtain ⟨n4, rfl⟩ := Int.eq_ofNat_of_zero_le g4.1
    refine ⟨⟨n0, n1, n2, n3, n4⟩, rfl, ?_⟩
    unfold Pg.M.Fit
    simp only
    omega
end Go.Proofs.Ytfbkcolcdkglbaa
