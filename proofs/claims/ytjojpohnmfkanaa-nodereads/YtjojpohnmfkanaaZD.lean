/- The document's own: which keys rise, which values and kids may be. -/
import Derived.Test.YtjojpohnmfkanaaCE
import Derived.Test.YtjojpohnmfkanaaZM
import Derived.Test.YtjojpohnmfkanaaZB
namespace Go.Proofs.Ytjojpohnmfkanaa
open Go.RowKit
set_option linter.unusedVariables false

set_option maxHeartbeats 800000 in
theorem rless_any (a b : Option Addr) (n m c d : Nat) (xs ys : List Int) (w : World) (h : Inn w a n c xs) (k : Inn w b m d ys) :
    Calls Try.prog 88 #[.slice a n c, .slice b m d] w fun e w' => e = .returned (.bool (decide (ordI xs ys < 0))) ∧ w' = w := by
  have t1 := text_inn h
  have t2 := text_inn k
  have tl := text_less xs ys h.byts k.byts
  clear h k
  go_enter Try.func88, Try.ntmps88
  go_wp2
  go_ret
  exact ⟨rfl, rfl⟩
set_option maxHeartbeats 1600000 in
set_option maxRecDepth 1000000 in
theorem rval_any (x : En) (w : World) (hv : x.e.val.length ≤ 9223372036854775807) :
    Calls Try.prog 89 #[.agg #[.slice x.ka x.e.key.length x.kc, .slice x.va x.e.val.length x.vc, .int .u32 (x.e.page : Int), .int .u32 (x.e.size : Int)]] w fun e w' => e = .returned (.bool x.e.valOk) ∧ Below w.heap.size w w' := by
  obtain ⟨e, ka, kc, va, vc⟩ := x
  obtain ⟨key, val, page, size⟩ := e
  simp only [] at hv ⊢
  have HD : Hid ((⟨key, val, page, size⟩ : Ee).valOk = ((decide (val.length ≤ 64) && (decide (page = 0) && decide (size = 0))) || (decide (val.length = 0) && (pageOk page && (decide (64 < size) && decide (size ≤ 8192)))))) := hide rfl
  generalize (⟨key, val, page, size⟩ : Ee).valOk = G at *
  generalize val.length = vl at *
  obtain ⟨b0, b1, b2, b3⟩ := box4 w (.slice ka key.length kc) (.slice va vl vc) (.int .u32 (page : Int)) (.int .u32 (size : Int)) 68
  have HB := hide (below_alloc w (.cells #[.slice ka key.length kc, .slice va vl vc, .int .u32 (page : Int), .int .u32 (size : Int)] 68))
  by_cases h0 : page = 0
  · subst h0
    by_cases h1 : size = 0
    · subst h1
      by_cases h2 : vl ≤ 64
      · have d2 : (vl : Int) ≤ 64 := by omega
        go_enter Try.func89, Try.ntmps89
        go_wp2
        go_ret
        exact ⟨by rw [HD.out]; simp [pageOk]; try omega, HB.out⟩
      · have d2 : ¬ (vl : Int) ≤ 64 := by omega
        go_enter Try.func89, Try.ntmps89
        go_wp2
        go_ret
        exact ⟨by rw [HD.out]; simp [pageOk]; try omega, HB.out⟩
    · have d1 : ((size : Int) == 0) = false := by simp; omega
      go_enter Try.func89, Try.ntmps89
      go_wp2
      go_ret
      exact ⟨by rw [HD.out]; simp [pageOk]; try omega, HB.out⟩
  · have d0 : ((page : Int) == 0) = false := by simp; omega
    by_cases h1 : vl = 0
    · subst h1
      by_cases h2 : 2 ≤ page
      · have d2 : (2 : Int) ≤ (page : Int) := by omega
        by_cases h3 : page < 16384
        · have d3 : (page : Int) < 16384 := by omega
          by_cases h4 : 65 ≤ size
          · have d4 : (65 : Int) ≤ (size : Int) := by omega
            by_cases h5 : size ≤ 8192
            · have d5 : (size : Int) ≤ 8192 := by omega
              go_enter Try.func89, Try.ntmps89
              go_wp2
              go_ret
              exact ⟨by rw [HD.out]; simp [pageOk]; try omega, HB.out⟩
            · have d5 : ¬ (size : Int) ≤ 8192 := by omega
              go_enter Try.func89, Try.ntmps89
              go_wp2
              go_ret
              exact ⟨by rw [HD.out]; simp [pageOk]; try omega, HB.out⟩
          · have d4 : ¬ (65 : Int) ≤ (size : Int) := by omega
            go_enter Try.func89, Try.ntmps89
            go_wp2
            go_ret
            exact ⟨by rw [HD.out]; simp [pageOk]; try omega, HB.out⟩
        · have d3 : ¬ (page : Int) < 16384 := by omega
          go_enter Try.func89, Try.ntmps89
          go_wp2
          go_ret
          exact ⟨by rw [HD.out]; simp [pageOk]; try omega, HB.out⟩
      · have d2 : ¬ (2 : Int) ≤ (page : Int) := by omega
        go_enter Try.func89, Try.ntmps89
        go_wp2
        go_ret
        exact ⟨by rw [HD.out]; simp [pageOk]; try omega, HB.out⟩
    · have d1 : ((vl : Int) == 0) = false := by simp; omega
      go_enter Try.func89, Try.ntmps89
      go_wp2
      go_ret
      exact ⟨by rw [HD.out]; simp [pageOk]; try omega, HB.out⟩
set_option maxHeartbeats 1600000 in
set_option maxRecDepth 1000000 in
theorem rkid_any (x : En) (w : World) (hv : x.e.val.length ≤ 9223372036854775807) :
    Calls Try.prog 90 #[.agg #[.slice x.ka x.e.key.length x.kc, .slice x.va x.e.val.length x.vc, .int .u32 (x.e.page : Int), .int .u32 (x.e.size : Int)]] w fun e w' => e = .returned (.bool x.e.kid) ∧ Below w.heap.size w w' := by
  obtain ⟨e, ka, kc, va, vc⟩ := x
  obtain ⟨key, val, page, size⟩ := e
  simp only [] at hv ⊢
  have HD : Hid ((⟨key, val, page, size⟩ : Ee).kid = (decide (val.length = 0) && (pageOk page && decide (size = 0)))) := hide rfl
  generalize (⟨key, val, page, size⟩ : Ee).kid = G at *
  generalize val.length = vl at *
  obtain ⟨b0, b1, b2, b3⟩ := box4 w (.slice ka key.length kc) (.slice va vl vc) (.int .u32 (page : Int)) (.int .u32 (size : Int)) 68
  have HB := hide (below_alloc w (.cells #[.slice ka key.length kc, .slice va vl vc, .int .u32 (page : Int), .int .u32 (size : Int)] 68))
  by_cases h1 : vl = 0
  · subst h1
    by_cases h4 : size = 0
    · subst h4
      by_cases h2 : 2 ≤ page
      · have d2 : (2 : Int) ≤ (page : Int) := by omega
        by_cases h3 : page < 16384
        · have d3 : (page : Int) < 16384 := by omega
          go_enter Try.func90, Try.ntmps90
          go_wp2
          go_ret
          exact ⟨by rw [HD.out]; simp [pageOk]; try omega, HB.out⟩
        · have d3 : ¬ (page : Int) < 16384 := by omega
          go_enter Try.func90, Try.ntmps90
          go_wp2
          go_ret
          exact ⟨by rw [HD.out]; simp [pageOk]; try omega, HB.out⟩
      · have d2 : ¬ (2 : Int) ≤ (page : Int) := by omega
        go_enter Try.func90, Try.ntmps90
        go_wp2
        go_ret
        exact ⟨by rw [HD.out]; simp [pageOk]; try omega, HB.out⟩
    · have d4 : ((size : Int) == 0) = false := by simp; omega
      go_enter Try.func90, Try.ntmps90
      go_wp2
      go_ret
      exact ⟨by rw [HD.out]; simp [pageOk]; try omega, HB.out⟩
  · have d1 : ((vl : Int) == 0) = false := by simp; omega
    go_enter Try.func90, Try.ntmps90
    go_wp2
    go_ret
    exact ⟨by rw [HD.out]; simp [pageOk]; try omega, HB.out⟩
end Go.Proofs.Ytjojpohnmfkanaa
/- The document's own: may a node be? -/
namespace Go.Proofs.Ytjojpohnmfkanaa
open Go.RowKit
set_option linter.unusedVariables false

set_option maxHeartbeats 3200000 in
set_option maxRecDepth 1000000 in
theorem rmay_any (leaf : Bool) (a : Option Addr) (n c : Nat) (xs : List En) (w : World) (h : Ens w a n c xs) (hn : n ≤ 1000000) (h0 : 0 < n) :
    Calls Try.prog 74 #[.agg #[.bool leaf, .slice a n c]] w fun e w' => e = .returned (.bool (mayB leaf (ers xs))) ∧ Below w.heap.size w w' := by
  have hb0 := heap_alloc_new w (.cells #[.bool leaf, .slice a n c] 25)
  obtain ⟨n0, n1, -⟩ := cells_two hb0
  have HB0 := hide (below_alloc w (.cells #[.bool leaf, .slice a n c] 25))
  have HBk := hide hb0
  have HE := hide (h.below HB0.out)
  have hn0 : ((n : Int) == 0) = false := by simp; omega
  clear h hb0
  go_enter Try.func74, Try.ntmps74
  go_wp2
  generalize w.alloc (.cells #[.bool leaf, .slice a n c] 25) = w1 at *
  go_loopw [3] (fun i wr => ∃ k : Nat, k ≤ n ∧ i = .int .i64 (k : Int) ∧ Hid (∀ j x, j < k → (ers xs)[j]? = some x → PlOk leaf (ers xs) j x) ∧ Below w1.heap.size w1 wr) (fun i _ => n - (intOf i).toNat)
  case atStart => exact ⟨0, Nat.zero_le _, rfl, hide fun j x hj => by omega, Below.refl _ _⟩
  case round =>
    obtain ⟨k, hk, rfl, HPl, hbl⟩ := hrel
    have HBl := hide hbl
    obtain ⟨m0, m1, -⟩ := cells_two ((hbl.block _ (lt_of_block HBk.out)).trans HBk.out)
    by_cases hlt : k < n
    · obtain ⟨x, hx, hok⟩ := (HE.out.below hbl).at hlt
      obtain ⟨b, off, rfl, hbs, c0, c1, c2, c3⟩ := (HE.out.below hbl).cells hx
      have HX := hide hx
      have HOk := hide hok
      clear hx hok hbl
      have hB1 : Below wr.heap.size wr (wr.alloc (.cells #[.slice x.ka x.e.key.length x.kc, .slice x.va x.e.val.length x.vc, .int .u32 (x.e.page : Int), .int .u32 (x.e.size : Int)] 68)) := below_alloc wr _
      obtain ⟨e0, e1, e2, e3⟩ := box4 wr (.slice x.ka x.e.key.length x.kc) (.slice x.va x.e.val.length x.vc) (.int .u32 (x.e.page : Int)) (.int .u32 (x.e.size : Int)) 68
      have p0 := cstays hB1 m0
      have p1 := cstays hB1 m1
      have HB1 := hide hB1
      have HV : Hid (∀ W, Calls Try.prog 89 #[.agg #[.slice x.ka x.e.key.length x.kc, .slice x.va x.e.val.length x.vc, .int .u32 (x.e.page : Int), .int .u32 (x.e.size : Int)]] W fun e w' => e = .returned (.bool x.e.valOk) ∧ Below W.heap.size W w') := hide fun W => rval_any x W (by have := HOk.out.val.cap; have := HOk.out.val.max; omega)
      have HKi : Hid (∀ W, Calls Try.prog 90 #[.agg #[.slice x.ka x.e.key.length x.kc, .slice x.va x.e.val.length x.vc, .int .u32 (x.e.page : Int), .int .u32 (x.e.size : Int)]] W fun e w' => e = .returned (.bool x.e.kid) ∧ Below W.heap.size W w') := hide fun W => rkid_any x W (by have := HOk.out.val.cap; have := HOk.out.val.max; omega)
      have hBe : ∀ W, Below wr.heap.size wr W → Below w.heap.size w W := fun W hW => HB0.out.trans ((HBl.out.trans (hW.mono HBl.out.size)).mono HB0.out.size)
      have HBe := hide hBe
      have hkl : x.e.key.length ≤ 9223372036854775807 := by have := HOk.out.key.cap; have := HOk.out.key.max; omega
      clear hB1 hBe
      cases leaf with
      | true =>
        by_cases hk0 : k = 0
        · have HNx : Hid (PlOk true (ers xs) k x.e → ∀ j y, j < k + 1 → (ers xs)[j]? = some y → PlOk true (ers xs) j y) := hide fun hp j y hj hy => by
            by_cases e : j = k
            · subst e
              have := hy.symm.trans (ers_at HX.out)
              cases this
              exact hp
            · exact HPl.out j y (by omega) hy
          have f1 : ((k : Int) == 0) = true := by simp [hk0]
          have f2 : decide ((0 : Int) < (k : Int)) = false := decide_eq_false (by omega)
          have f2n : decide (0 < k) = false := decide_eq_false (by omega)
          have HK0 := hide hk0
          clear hk0
          have HRi : Hid (∀ y, 0 < k → (ers xs)[k - 1]? = some y → ordI y.key x.e.key < 0) := hide fun y h => by have := HK0.out; omega
          by_cases hl0 : x.e.key.length = 0
          · have l1 : ((x.e.key.length : Int) == 0) = true := by simp [hl0]
            have HL0 := hide hl0
            clear hl0
            go_wp2
            go_quiet (fail)
            go_wp2
            go_ret
            exact ⟨by rw [mayB_no (ers_at HX.out) (fun h => (by have := h.first.1 HL0.out; cases this.2))]; rfl, HBe.out _ (below_drewN HB1.out _)⟩
          · have l1 : ((x.e.key.length : Int) == 0) = false := by rw [beq_eq_false_iff_ne]; omega
            have HL0 := hide hl0
            clear hl0
            by_cases h16 : x.e.key.length ≤ 160
            · have l2 : decide ((160 : Int) < (x.e.key.length : Int)) = false := decide_eq_false (by omega)
              have l2n : decide (160 < x.e.key.length) = false := decide_eq_false (by omega)
              cases hv : x.e.valOk with
              | false =>
                rw [hv] at HV
                go_wp2
                go_quiet (fail)
                go_wp2_with (go_at_call 89; refine (HV.out _).mono ?_; rintro e w2 ⟨rfl, hb2⟩)
                go_ret
                exact ⟨by rw [mayB_no (ers_at HX.out) (fun h => (by have := h.val rfl; rw [hv] at this; cases this))]; rfl, HBe.out _ ((below_drewN HB1.out _).trans (hb2.mono (below_drewN HB1.out _).size))⟩
              | true =>
                rw [hv] at HV
                have HVO := hide hv
                clear hv
                go_wp2
                go_quiet (fail)
                go_wp2_with (go_at_call 89; refine (HV.out _).mono ?_; rintro e w2 ⟨rfl, hb2⟩; have HB2 : Hid (Below wr.heap.size wr w2) := hide ((below_drewN HB1.out _).trans (hb2.mono (below_drewN HB1.out _).size)); have r0 := cstays HB2.out m0; clear hb2)
                go_loopw [6] (fun i wr2 => i = .int .i64 0 ∧ wr2 = w2) (fun _ _ => 0)
                case atStart => exact ⟨rfl, rfl⟩
                case round =>
                  obtain ⟨rfl, rfl⟩ := hrel
                  go_wp2
                  go_roundw
                  case rel => exact ⟨k + 1, by omega, by go_num, hide (HNx.out ⟨⟨fun h => absurd h HL0.out, fun h => (by cases h.2)⟩, by omega, HRi.out, fun _ => HVO.out, fun h => (by cases h), fun h => (by cases h)⟩), HBl.out.trans (HB2.out.mono HBl.out.size)⟩
                  case measure => simp [intOf]; omega
            · have l2 : decide ((160 : Int) < (x.e.key.length : Int)) = true := decide_eq_true (by omega)
              have l3 : (160 : Int) < (x.e.key.length : Int) := by omega
              have l2n : decide (160 < x.e.key.length) = true := decide_eq_true (by omega)
              have l3n : 160 < x.e.key.length := by omega
              go_wp2
              go_quiet (fail)
              go_wp2
              go_ret
              exact ⟨by rw [mayB_no (ers_at HX.out) (fun h => (by have := h.long; omega))]; rfl, HBe.out _ (below_drewN HB1.out _)⟩
        · have HNx : Hid (PlOk true (ers xs) k x.e → ∀ j y, j < k + 1 → (ers xs)[j]? = some y → PlOk true (ers xs) j y) := hide fun hp j y hj hy => by
            by_cases e : j = k
            · subst e
              have := hy.symm.trans (ers_at HX.out)
              cases this
              exact hp
            · exact HPl.out j y (by omega) hy
          have f1 : ((k : Int) == 0) = false := by simp; omega
          have f2 : decide ((0 : Int) < (k : Int)) = true := decide_eq_true (by omega)
          have f3 : (0 : Int) < (k : Int) := by omega
          have f2n : decide (0 < k) = true := decide_eq_true (by omega)
          have f3n : 0 < k := by omega
          have HK0 : Hid (k ≠ 0) := hide hk0
          by_cases hl0 : x.e.key.length = 0
          · have l1 : ((x.e.key.length : Int) == 0) = true := by simp [hl0]
            have HL0 := hide hl0
            clear hl0
            go_wp2
            go_quiet (fail)
            go_wp2
            go_ret
            exact ⟨by rw [mayB_no (ers_at HX.out) (fun h => (by have := h.first.1 HL0.out; cases this.2))]; rfl, HBe.out _ (below_drewN HB1.out _)⟩
          · have l1 : ((x.e.key.length : Int) == 0) = false := by rw [beq_eq_false_iff_ne]; omega
            have HL0 := hide hl0
            clear hl0
            by_cases h16 : x.e.key.length ≤ 160
            · have l2 : decide ((160 : Int) < (x.e.key.length : Int)) = false := decide_eq_false (by omega)
              have l2n : decide (160 < x.e.key.length) = false := decide_eq_false (by omega)
              obtain ⟨y, hy, hyk⟩ := (HE.out.below HBl.out).at (k := k - 1) (by omega)
              obtain ⟨b', off', e', -, d0, d1, d2, d3⟩ := (HE.out.below HBl.out).cells hy
              cases e'
              have i1 : IntKind.i64.wrap ((k : Int) - 1) = (k : Int) - 1 := by rw [IntKind.wrap_i64] <;> omega
              have i2 : ((k : Int) - 1).toNat = k - 1 := by omega
              have g0 := cstays HB1.out d0
              have HLs : ∀ j, Hid (Calls Try.prog 88 #[.slice y.ka y.e.key.length y.kc, .slice x.ka x.e.key.length x.kc] ((wr.alloc (.cells #[.slice x.ka x.e.key.length x.kc, .slice x.va x.e.val.length x.vc, .int .u32 (x.e.page : Int), .int .u32 (x.e.size : Int)] 68)).drewN j) fun e w' => e = .returned (.bool (decide (ordI y.e.key x.e.key < 0))) ∧ w' = (wr.alloc (.cells #[.slice x.ka x.e.key.length x.kc, .slice x.va x.e.val.length x.vc, .int .u32 (x.e.page : Int), .int .u32 (x.e.size : Int)] 68)).drewN j) := fun j => hide (rless_any y.ka x.ka _ _ y.kc x.kc y.e.key x.e.key _ ((hyk.key.below HB1.out).below (below_drewN (Below.refl _ _) _)) ((HOk.out.key.below HB1.out).below (below_drewN (Below.refl _ _) _)))
              have HY := hide hy
              clear d0 d1 d2 d3 hyk hy
              by_cases hls : ordI y.e.key x.e.key < 0
              · rw [decide_eq_true hls] at HLs
                have HRi : Hid (∀ y, 0 < k → (ers xs)[k - 1]? = some y → ordI y.key x.e.key < 0) := hide fun z _ hz => by
                  have := hz.symm.trans (ers_at HY.out)
                  cases this
                  exact hls
                clear hls
                cases hv : x.e.valOk with
                | false =>
                  rw [hv] at HV
                  go_wp2
                  go_quiet (first | (go_at_call 88; exact Calls.quiet_of_same (HLs _).out))
                  go_wp2_with (go_at_call 89; refine (HV.out _).mono ?_; rintro e w2 ⟨rfl, hb2⟩)
                  go_ret
                  exact ⟨by rw [mayB_no (ers_at HX.out) (fun h => (by have := h.val rfl; rw [hv] at this; cases this))]; rfl, HBe.out _ ((below_drewN HB1.out _).trans (hb2.mono (below_drewN HB1.out _).size))⟩
                | true =>
                  rw [hv] at HV
                  have HVO := hide hv
                  clear hv
                  go_wp2
                  go_quiet (first | (go_at_call 88; exact Calls.quiet_of_same (HLs _).out))
                  go_wp2_with (go_at_call 89; refine (HV.out _).mono ?_; rintro e w2 ⟨rfl, hb2⟩; have HB2 : Hid (Below wr.heap.size wr w2) := hide ((below_drewN HB1.out _).trans (hb2.mono (below_drewN HB1.out _).size)); have r0 := cstays HB2.out m0; clear hb2)
                  go_loopw [6] (fun i wr2 => i = .int .i64 0 ∧ wr2 = w2) (fun _ _ => 0)
                  case atStart => exact ⟨rfl, rfl⟩
                  case round =>
                    obtain ⟨rfl, rfl⟩ := hrel
                    go_wp2
                    go_roundw
                    case rel => exact ⟨k + 1, by omega, by go_num, hide (HNx.out ⟨⟨fun h => absurd h HL0.out, fun h => (by cases h.2)⟩, by omega, HRi.out, fun _ => HVO.out, fun h => (by cases h), fun h => (by cases h)⟩), HBl.out.trans (HB2.out.mono HBl.out.size)⟩
                    case measure => simp [intOf]; omega
              · rw [decide_eq_false hls] at HLs
                have HLn := hide hls
                clear hls
                go_wp2
                go_quiet (first | (go_at_call 88; exact Calls.quiet_of_same (HLs _).out))
                go_wp2
                go_ret
                exact ⟨by rw [mayB_no (ers_at HX.out) (fun h => (by have h1 := h.rise y.e (by omega) (ers_at HY.out); have h2 := HLn.out; omega))]; rfl, HBe.out _ (below_drewN HB1.out _)⟩
            · have l2 : decide ((160 : Int) < (x.e.key.length : Int)) = true := decide_eq_true (by omega)
              have l3 : (160 : Int) < (x.e.key.length : Int) := by omega
              have l2n : decide (160 < x.e.key.length) = true := decide_eq_true (by omega)
              have l3n : 160 < x.e.key.length := by omega
              go_wp2
              go_quiet (fail)
              go_wp2
              go_ret
              exact ⟨by rw [mayB_no (ers_at HX.out) (fun h => (by have := h.long; omega))]; rfl, HBe.out _ (below_drewN HB1.out _)⟩
      | false =>
        by_cases hk0 : k = 0
        · have HNx : Hid (PlOk false (ers xs) k x.e → ∀ j y, j < k + 1 → (ers xs)[j]? = some y → PlOk false (ers xs) j y) := hide fun hp j y hj hy => by
            by_cases e : j = k
            · subst e
              have := hy.symm.trans (ers_at HX.out)
              cases this
              exact hp
            · exact HPl.out j y (by omega) hy
          have f1 : ((k : Int) == 0) = true := by simp [hk0]
          have f2 : decide ((0 : Int) < (k : Int)) = false := decide_eq_false (by omega)
          have f2n : decide (0 < k) = false := decide_eq_false (by omega)
          have HK0 := hide hk0
          clear hk0
          have HRi : Hid (∀ y, 0 < k → (ers xs)[k - 1]? = some y → ordI y.key x.e.key < 0) := hide fun y h => by have := HK0.out; omega
          by_cases hl0 : x.e.key.length = 0
          · have l1 : ((x.e.key.length : Int) == 0) = true := by simp [hl0]
            have HL0 := hide hl0
            clear hl0
            have l2 : decide ((160 : Int) < (x.e.key.length : Int)) = false := decide_eq_false (by have := HL0.out; omega)
            have l2n : decide (160 < x.e.key.length) = false := decide_eq_false (by have := HL0.out; omega)
            have h16 : x.e.key.length ≤ 160 := by have := HL0.out; omega
            cases hv : x.e.kid with
            | false =>
              rw [hv] at HKi
              go_wp2
              go_quiet (fail)
              go_wp2_with (go_at_call 90; refine (HKi.out _).mono ?_; rintro e w2 ⟨rfl, hb2⟩)
              go_ret
              exact ⟨by rw [mayB_no (ers_at HX.out) (fun h => (by have := h.kid rfl; rw [hv] at this; cases this))]; rfl, HBe.out _ ((below_drewN HB1.out _).trans (hb2.mono (below_drewN HB1.out _).size))⟩
            | true =>
              rw [hv] at HKi
              have HVO := hide hv
              clear hv
              go_wp2
              go_quiet (fail)
              go_wp2_with (go_at_call 90; refine (HKi.out _).mono ?_; rintro e w2 ⟨rfl, hb2⟩)
              have HB2 : Hid (Below wr.heap.size wr w2) := hide ((below_drewN HB1.out _).trans (hb2.mono (below_drewN HB1.out _).size))
              have HP2 : Hid (w2.cell? ⟨wr.heap.size, 2, none⟩ = some (.int .u32 (x.e.page : Int))) := hide (cstays hb2 (by simp))
              have HR0 := hide (cstays HB2.out m0)
              have HR1 := hide (cstays HB2.out m1)
              clear hb2 e0 e1 e2 e3 p0 p1 m0 m1 c0 c1 c2 c3
              go_loopw [6] (fun i wr2 => ∃ j : Nat, j ≤ k ∧ i = .int .i64 (j : Int) ∧ Hid (∀ t y, t < j → (ers xs)[t]? = some y → y.page ≠ x.e.page) ∧ Below w2.heap.size w2 wr2) (fun i _ => k - (intOf i).toNat)
              case atStart => exact ⟨0, Nat.zero_le _, rfl, hide fun t y ht => by omega, Below.refl _ _⟩
              case round =>
                obtain ⟨j, hj, rfl, HPg, hb3⟩ := hrel
                have HB3 := hide (HB2.out.trans (hb3.mono HB2.out.size))
                have r0 := cstays hb3 HR0.out
                have r1 := cstays hb3 HR1.out
                have r2 := cstays hb3 HP2.out
                have HBb := hide hb3
                clear hb3
                by_cases hjk : j < k
                · obtain ⟨y, hy, hyk⟩ := (HE.out.below HBl.out).at (k := j) (by omega)
                  obtain ⟨b', off', e', -, d0, d1, d2, d3⟩ := (HE.out.below HBl.out).cells hy
                  cases e'
                  have g2 := cstays HB3.out d2
                  have HY := hide hy
                  clear d0 d1 d2 d3 hyk hy
                  have hjn : j < n := by omega
                  by_cases hpp : y.e.page = x.e.page
                  · have hpe : ((y.e.page : Int) == (x.e.page : Int)) = true := by simp [hpp]
                    go_wp2
                    go_quiet (fail)
                    go_wp2
                    go_ret
                    exact ⟨by rw [mayB_no (ers_at HX.out) (fun h => h.page rfl j y.e hjk (ers_at HY.out) hpp)]; rfl, HBe.out _ (below_drewN HB3.out _)⟩
                  · have hpe : ((y.e.page : Int) == (x.e.page : Int)) = false := by simp; omega
                    have HPp := hide hpp
                    clear hpp
                    go_wp2
                    go_quiet (fail)
                    go_wp2
                    go_roundw
                    case rel =>
                      refine ⟨j + 1, by omega, by go_num, hide fun t z ht hz => ?_, below_drewN HBb.out _⟩
                      by_cases e : t = j
                      · subst e
                        have := hz.symm.trans (ers_at HY.out)
                        cases this
                        exact HPp.out
                      · exact HPg.out t z (by omega) hz
                    case measure => simp [intOf]; omega
                · have HJ : Hid (j = k) := hide (by omega)
                  have hjd : decide ((j : Int) < (k : Int)) = false := decide_eq_false (by omega)
                  go_wp2
                  go_roundw
                  case rel => exact ⟨k + 1, by omega, by go_num, hide (HNx.out ⟨⟨fun _ => ⟨HK0.out, rfl⟩, fun _ => HL0.out⟩, by omega, HRi.out, fun h => (by cases h), fun _ => HVO.out, fun _ t y ht hy => HPg.out t y (by rw [HJ.out]; exact ht) hy⟩), HBl.out.trans (HB3.out.mono HBl.out.size)⟩
                  case measure => simp [intOf]; omega
          · have l1 : ((x.e.key.length : Int) == 0) = false := by rw [beq_eq_false_iff_ne]; omega
            have HL0 := hide hl0
            clear hl0
            go_wp2
            go_quiet (fail)
            go_wp2
            go_ret
            exact ⟨by rw [mayB_no (ers_at HX.out) (fun h => HL0.out (h.first.2 ⟨HK0.out, rfl⟩))]; rfl, HBe.out _ (below_drewN HB1.out _)⟩
        · have HNx : Hid (PlOk false (ers xs) k x.e → ∀ j y, j < k + 1 → (ers xs)[j]? = some y → PlOk false (ers xs) j y) := hide fun hp j y hj hy => by
            by_cases e : j = k
            · subst e
              have := hy.symm.trans (ers_at HX.out)
              cases this
              exact hp
            · exact HPl.out j y (by omega) hy
          have f1 : ((k : Int) == 0) = false := by simp; omega
          have f2 : decide ((0 : Int) < (k : Int)) = true := decide_eq_true (by omega)
          have f3 : (0 : Int) < (k : Int) := by omega
          have f2n : decide (0 < k) = true := decide_eq_true (by omega)
          have f3n : 0 < k := by omega
          have HK0 : Hid (k ≠ 0) := hide hk0
          by_cases hl0 : x.e.key.length = 0
          · have l1 : ((x.e.key.length : Int) == 0) = true := by simp [hl0]
            have HL0 := hide hl0
            clear hl0
            go_wp2
            go_quiet (fail)
            go_wp2
            go_ret
            exact ⟨by rw [mayB_no (ers_at HX.out) (fun h => HK0.out (h.first.1 HL0.out).1)]; rfl, HBe.out _ (below_drewN HB1.out _)⟩
          · have l1 : ((x.e.key.length : Int) == 0) = false := by rw [beq_eq_false_iff_ne]; omega
            have HL0 := hide hl0
            clear hl0
            by_cases h16 : x.e.key.length ≤ 160
            · have l2 : decide ((160 : Int) < (x.e.key.length : Int)) = false := decide_eq_false (by omega)
              have l2n : decide (160 < x.e.key.length) = false := decide_eq_false (by omega)
              obtain ⟨y, hy, hyk⟩ := (HE.out.below HBl.out).at (k := k - 1) (by omega)
              obtain ⟨b', off', e', -, d0, d1, d2, d3⟩ := (HE.out.below HBl.out).cells hy
              cases e'
              have i1 : IntKind.i64.wrap ((k : Int) - 1) = (k : Int) - 1 := by rw [IntKind.wrap_i64] <;> omega
              have i2 : ((k : Int) - 1).toNat = k - 1 := by omega
              have g0 := cstays HB1.out d0
              have HLs : ∀ j, Hid (Calls Try.prog 88 #[.slice y.ka y.e.key.length y.kc, .slice x.ka x.e.key.length x.kc] ((wr.alloc (.cells #[.slice x.ka x.e.key.length x.kc, .slice x.va x.e.val.length x.vc, .int .u32 (x.e.page : Int), .int .u32 (x.e.size : Int)] 68)).drewN j) fun e w' => e = .returned (.bool (decide (ordI y.e.key x.e.key < 0))) ∧ w' = (wr.alloc (.cells #[.slice x.ka x.e.key.length x.kc, .slice x.va x.e.val.length x.vc, .int .u32 (x.e.page : Int), .int .u32 (x.e.size : Int)] 68)).drewN j) := fun j => hide (rless_any y.ka x.ka _ _ y.kc x.kc y.e.key x.e.key _ ((hyk.key.below HB1.out).below (below_drewN (Below.refl _ _) _)) ((HOk.out.key.below HB1.out).below (below_drewN (Below.refl _ _) _)))
              have HY := hide hy
              clear d0 d1 d2 d3 hyk hy
              by_cases hls : ordI y.e.key x.e.key < 0
              · rw [decide_eq_true hls] at HLs
                have HRi : Hid (∀ y, 0 < k → (ers xs)[k - 1]? = some y → ordI y.key x.e.key < 0) := hide fun z _ hz => by
                  have := hz.symm.trans (ers_at HY.out)
                  cases this
                  exact hls
                clear hls
                cases hv : x.e.kid with
                | false =>
                  rw [hv] at HKi
                  go_wp2
                  go_quiet (first | (go_at_call 88; exact Calls.quiet_of_same (HLs _).out))
                  go_wp2_with (go_at_call 90; refine (HKi.out _).mono ?_; rintro e w2 ⟨rfl, hb2⟩)
                  go_ret
                  exact ⟨by rw [mayB_no (ers_at HX.out) (fun h => (by have := h.kid rfl; rw [hv] at this; cases this))]; rfl, HBe.out _ ((below_drewN HB1.out _).trans (hb2.mono (below_drewN HB1.out _).size))⟩
                | true =>
                  rw [hv] at HKi
                  have HVO := hide hv
                  clear hv
                  go_wp2
                  go_quiet (first | (go_at_call 88; exact Calls.quiet_of_same (HLs _).out))
                  go_wp2_with (go_at_call 90; refine (HKi.out _).mono ?_; rintro e w2 ⟨rfl, hb2⟩)
                  have HB2 : Hid (Below wr.heap.size wr w2) := hide ((below_drewN HB1.out _).trans (hb2.mono (below_drewN HB1.out _).size))
                  have HP2 : Hid (w2.cell? ⟨wr.heap.size, 2, none⟩ = some (.int .u32 (x.e.page : Int))) := hide (cstays hb2 (by simp))
                  have HR0 := hide (cstays HB2.out m0)
                  have HR1 := hide (cstays HB2.out m1)
                  clear hb2 e0 e1 e2 e3 p0 p1 m0 m1 c0 c1 c2 c3
                  go_loopw [6] (fun i wr2 => ∃ j : Nat, j ≤ k ∧ i = .int .i64 (j : Int) ∧ Hid (∀ t y, t < j → (ers xs)[t]? = some y → y.page ≠ x.e.page) ∧ Below w2.heap.size w2 wr2) (fun i _ => k - (intOf i).toNat)
                  case atStart => exact ⟨0, Nat.zero_le _, rfl, hide fun t y ht => by omega, Below.refl _ _⟩
                  case round =>
                    obtain ⟨j, hj, rfl, HPg, hb3⟩ := hrel
                    have HB3 := hide (HB2.out.trans (hb3.mono HB2.out.size))
                    have r0 := cstays hb3 HR0.out
                    have r1 := cstays hb3 HR1.out
                    have r2 := cstays hb3 HP2.out
                    have HBb := hide hb3
                    clear hb3
                    by_cases hjk : j < k
                    · obtain ⟨y, hy, hyk⟩ := (HE.out.below HBl.out).at (k := j) (by omega)
                      obtain ⟨b', off', e', -, d0, d1, d2, d3⟩ := (HE.out.below HBl.out).cells hy
                      cases e'
                      have g2 := cstays HB3.out d2
                      have HY := hide hy
                      clear d0 d1 d2 d3 hyk hy
                      have hjn : j < n := by omega
                      by_cases hpp : y.e.page = x.e.page
                      · have hpe : ((y.e.page : Int) == (x.e.page : Int)) = true := by simp [hpp]
                        go_wp2
                        go_quiet (fail)
                        go_wp2
                        go_ret
                        exact ⟨by rw [mayB_no (ers_at HX.out) (fun h => h.page rfl j y.e hjk (ers_at HY.out) hpp)]; rfl, HBe.out _ (below_drewN HB3.out _)⟩
                      · have hpe : ((y.e.page : Int) == (x.e.page : Int)) = false := by simp; omega
                        have HPp := hide hpp
                        clear hpp
                        go_wp2
                        go_quiet (fail)
                        go_wp2
                        go_roundw
                        case rel =>
                          refine ⟨j + 1, by omega, by go_num, hide fun t z ht hz => ?_, below_drewN HBb.out _⟩
                          by_cases e : t = j
                          · subst e
                            have := hz.symm.trans (ers_at HY.out)
                            cases this
                            exact HPp.out
                          · exact HPg.out t z (by omega) hz
                        case measure => simp [intOf]; omega
                    · have HJ : Hid (j = k) := hide (by omega)
                      have hjd : decide ((j : Int) < (k : Int)) = false := decide_eq_false (by omega)
                      go_wp2
                      go_roundw
                      case rel => exact ⟨k + 1, by omega, by go_num, hide (HNx.out ⟨⟨fun h => absurd h HL0.out, fun h => absurd h.1 HK0.out⟩, by omega, HRi.out, fun h => (by cases h), fun _ => HVO.out, fun _ t y ht hy => HPg.out t y (by rw [HJ.out]; exact ht) hy⟩), HBl.out.trans (HB3.out.mono HBl.out.size)⟩
                      case measure => simp [intOf]; omega
              · rw [decide_eq_false hls] at HLs
                have HLn := hide hls
                clear hls
                go_wp2
                go_quiet (first | (go_at_call 88; exact Calls.quiet_of_same (HLs _).out))
                go_wp2
                go_ret
                exact ⟨by rw [mayB_no (ers_at HX.out) (fun h => (by have h1 := h.rise y.e (by omega) (ers_at HY.out); have h2 := HLn.out; omega))]; rfl, HBe.out _ (below_drewN HB1.out _)⟩
            · have l2 : decide ((160 : Int) < (x.e.key.length : Int)) = true := decide_eq_true (by omega)
              have l3 : (160 : Int) < (x.e.key.length : Int) := by omega
              have l2n : decide (160 < x.e.key.length) = true := decide_eq_true (by omega)
              have l3n : 160 < x.e.key.length := by omega
              go_wp2
              go_quiet (fail)
              go_wp2
              go_ret
              exact ⟨by rw [mayB_no (ers_at HX.out) (fun h => (by have := h.long; omega))]; rfl, HBe.out _ (below_drewN HB1.out _)⟩
    · have HKn : Hid (k = n) := hide (by omega)
      go_wp2
      go_ret
      have hmb : mayB leaf (ers xs) = true := by
        refine (mayB_iff leaf (ers xs)).2 ⟨fun e => ?_, fun i x hx => HPl.out i x ?_ hx⟩
        · have := congrArg List.length e
          rw [ers_len, HE.out.len] at this
          simp at this
          omega
        · have := (List.getElem?_eq_some_iff.1 hx).1
          rw [ers_len, HE.out.len] at this
          rw [HKn.out]
          exact this
      exact ⟨by rw [hmb]; rfl, HB0.out.trans (HBl.out.mono HB0.out.size)⟩
end Go.Proofs.Ytjojpohnmfkanaa
