/- Keys that rise; all entries; pages that differ. -/
import Derived.Test.YtcflnkepopcofaaCB
import Derived.Maps.OwnSet
namespace Go.Proofs.Ytcflnkepopcofaa
open Go.RowKit
set_option linter.unusedVariables false

theorem keysOk_at (ys : List Int) (xs : List En) (k : Nat) (x : En) (h : xs[k]? = some x) : keysOk ys (ers (xs.drop k)) = (decide (x.e.key.length ≤ 160) && (decide (0 < ordI x.e.key ys) && keysOk x.e.key (ers (xs.drop (k + 1))))) := by
  rw [drop_at h]; rfl
set_option maxHeartbeats 1600000 in
set_option maxRecDepth 1000000 in
theorem keys_any (a : Option Addr) (n c : Nat) (xs : List En) (w : World) (h : Ens w a n c xs) (hn : n ≤ 1000000) :
    Calls Try.prog 40 #[.slice a n c] w fun e w' => e = .returned (.bool (keysOk [] (ers xs))) ∧ Below w.heap.size w w' := by
  have HE := hide h
  clear h
  go_enter Try.func40, Try.ntmps40
  go_wp2
  go_loopw [3, 8] (fun s i wr => ∃ (k : Nat) (aa : Option Addr) (la ca : Nat) (ys : List Int), k ≤ n ∧ i = .int .i64 (k : Int) ∧ s = .slice aa la ca ∧ Inn wr aa la ca ys ∧ keysOk [] (ers xs) = keysOk ys (ers (xs.drop k)) ∧ Below w.heap.size w wr) (fun _ i _ => n - (intOf i).toNat)
  case atStart => exact ⟨0, none, 0, 0, [], Nat.zero_le _, rfl, rfl, inn_nil w, by rw [List.drop_zero], Below.refl _ _⟩
  case round =>
    obtain ⟨k, aa, la, ca, ys, hk, rfl, rfl, hin, hke, hbl⟩ := hrel
    have HBl := hide hbl
    have HIn := hide hin
    have HKe := hide hke
    clear hin hke
    by_cases hlt : k < n
    · obtain ⟨x, hx, hok⟩ := (HE.out.below hbl).at hlt
      obtain ⟨b, off, rfl, hbs, c0, c1, c2, c3⟩ := (HE.out.below hbl).cells hx
      have HOk := hide hok
      have HKn : Hid (keysOk [] (ers xs) = (decide (x.e.key.length ≤ 160) && (decide (0 < ordI x.e.key ys) && keysOk x.e.key (ers (xs.drop (k + 1)))))) := by rw [Hid, HKe.out, keysOk_at ys xs k x hx]
      have hkm := hok.key.max
      have hkc := hok.key.cap
      have hBn := below_alloc wr (.cells #[.slice x.ka x.e.key.length x.kc, .slice x.va x.e.val.length x.vc, .int .u32 (x.e.page : Int), .int .u32 (x.e.size : Int)] 28)
      have HBn := hide (hbl.trans (hBn.mono hbl.size))
      have HCm := hide (compare_any (hok.key.below hBn) (HIn.out.below hBn))
      have HNx := hide (hok.key.below hBn)
      clear hBn hok hbl
      generalize ordI x.e.key ys = O at *
      by_cases h160 : x.e.key.length ≤ 160
      · have d1 : (x.e.key.length : Int) ≤ 160 := by omega
        by_cases hO : 0 < O
        · go_wp2_with (go_at_call 27; refine HCm.out.mono ?_; rintro e w2 ⟨rfl, rfl⟩)
          go_roundw
          case rel => exact ⟨k + 1, _, _, _, _, by omega, by go_num, rfl, HNx.out, by rw [HKn.out]; simp [h160, hO], HBn.out⟩
          case measure => simp [intOf]; omega
        · have d2 : O ≤ 0 := by omega
          go_wp2_with (go_at_call 27; refine HCm.out.mono ?_; rintro e w2 ⟨rfl, rfl⟩)
          go_ret
          exact ⟨by rw [HKn.out]; simp; intro _ h; omega, HBn.out⟩
      · have d1 : ¬ (x.e.key.length : Int) ≤ 160 := by omega
        have d1' : (160 : Int) < (x.e.key.length : Int) := by omega
        go_wp2
        go_ret
        exact ⟨by rw [HKn.out]; simp [h160], HBn.out⟩
    · obtain rfl : k = n := by omega
      have HF : Hid (keysOk [] (ers xs) = true) := by rw [Hid, HKe.out, List.drop_eq_nil_of_le (by rw [HE.out.len]; exact Nat.le_refl _)]; rfl
      go_wp2
      go_ret
      exact ⟨by rw [HF.out]; rfl, HBl.out⟩

set_option maxHeartbeats 1600000 in
set_option maxRecDepth 1000000 in
theorem all1_any (g q : Nat) (p : Ee → Bool) (hg : ∀ (x : En) (W : World), x.e.val.length ≤ 9223372036854775807 → Calls Try.prog g #[.agg #[.slice x.ka x.e.key.length x.kc, .slice x.va x.e.val.length x.vc, .int .u32 (x.e.page : Int), .int .u32 (x.e.size : Int)]] W fun e w' => e = .returned (.bool (p x.e)) ∧ Below W.heap.size W w')
    (hen : ∀ args w, (callFunc g args).run Try.prog w = .ok (.enter g args) w)
    (x : En) (w : World) (hv : x.e.val.length ≤ 9223372036854775807) (hq : w.cell? ⟨q, 0, none⟩ = some (.func (.func g) #[] #[])) :
    Calls Try.prog 62 #[.agg #[.slice x.ka x.e.key.length x.kc, .slice x.va x.e.val.length x.vc, .int .u32 (x.e.page : Int), .int .u32 (x.e.size : Int)], .pointer (some ⟨q, 0, none⟩)] w fun e w' => e = .returned (.bool (!p x.e)) ∧ Below w.heap.size w w' := by
  have hB1 := below_alloc w (.cells #[.slice x.ka x.e.key.length x.kc, .slice x.va x.e.val.length x.vc, .int .u32 (x.e.page : Int), .int .u32 (x.e.size : Int)] 28)
  have hq1 := (hB1.cell (p := ⟨q, 0, none⟩) (World.block_lt_of_cell? w _ hq)).trans hq
  have HB1 := hide hB1
  have HG := hide (fun W => hg x W hv)
  clear hB1 hg hq
  generalize p x.e = B at *
  go_enter Try.func62, Try.ntmps62
  go_wp2_with fail
  refine (HG.out _).mono ?_
  rintro e w2 ⟨rfl, hb2⟩
  go_wp2
  go_ret
  exact ⟨rfl, HB1.out.trans (hb2.mono HB1.out.size)⟩
theorem any_snoc (p : Ee → Bool) (xs : List En) (k : Nat) (x : En) (h : xs[k]? = some x) : (ers (xs.take (k + 1))).any p = ((ers (xs.take k)).any p || p x.e) := by
  rw [take_at h, ers_app, List.any_append]
  simp [ers]
theorem any_here (p : Ee → Bool) (xs : List En) (k : Nat) (x : En) (h : xs[k]? = some x) (hp : p x.e = true) : (ers xs).any p = true :=
  List.any_eq_true.2 ⟨x.e, List.mem_map.2 ⟨x, List.mem_of_getElem? h, rfl⟩, hp⟩
set_option maxHeartbeats 1600000 in
set_option maxRecDepth 1000000 in
theorem index_any (g q : Nat) (p : Ee → Bool) (hg : ∀ (x : En) (W : World), x.e.val.length ≤ 9223372036854775807 → Calls Try.prog g #[.agg #[.slice x.ka x.e.key.length x.kc, .slice x.va x.e.val.length x.vc, .int .u32 (x.e.page : Int), .int .u32 (x.e.size : Int)]] W fun e w' => e = .returned (.bool (p x.e)) ∧ Below W.heap.size W w')
    (hen : ∀ args w, (callFunc g args).run Try.prog w = .ok (.enter g args) w)
    (a : Option Addr) (n c : Nat) (xs : List En) (w : World) (h : Ens w a n c xs) (hn : n ≤ 1000000) (hq : w.cell? ⟨q, 0, none⟩ = some (.func (.func g) #[] #[])) :
    Calls Try.prog 69 #[.slice a n c, .func (.func 62) #[] #[.pointer (some ⟨q, 0, none⟩)]] w fun e w' => ∃ r : Int, e = .returned (.int .i64 r) ∧ decide (0 ≤ r) = (ers xs).any (fun e => !p e) ∧ Below w.heap.size w w' := by
  have HE := hide h
  have HG := hide hg
  have HN := hide hen
  have HQ := hide hq
  clear h hg hen hq
  go_enter Try.func69, Try.ntmps69
  go_wp2
  go_loopw [8] (fun i wr => ∃ (k : Nat), k ≤ n ∧ i = .int .i64 (k : Int) ∧ (ers (xs.take k)).any (fun e => !p e) = false ∧ Below w.heap.size w wr) (fun i _ => n - (intOf i).toNat)
  case atStart => exact ⟨0, Nat.zero_le _, rfl, rfl, Below.refl _ _⟩
  case round =>
    obtain ⟨k, hk, rfl, hno, hbl⟩ := hrel
    have HBl := hide hbl
    have HNo := hide hno
    clear hno
    by_cases hlt : k < n
    · obtain ⟨x, hx, hok⟩ := (HE.out.below hbl).at hlt
      obtain ⟨b, off, rfl, hbs, c0, c1, c2, c3⟩ := (HE.out.below hbl).cells hx
      have hq1 := (hbl.cell (p := ⟨q, 0, none⟩) (World.block_lt_of_cell? w _ HQ.out)).trans HQ.out
      have HC := hide (all1_any g q p HG.out HN.out x wr (by have := hok.val.cap; have := hok.val.max; omega) hq1)
      have HX := hide hx
      clear hok hbl hx hq1
      rcases Bool.eq_false_or_eq_true (p x.e) with hp | hp
      · rw [hp] at HC
        have HP := hide hp
        clear hp
        go_wp2_with (go_at_call 62; refine HC.out.mono ?_; rintro e w2 ⟨rfl, hb2⟩)
        go_roundw
        case rel => exact ⟨k + 1, by omega, by go_num, by rw [any_snoc _ xs k x HX.out, HNo.out, HP.out]; rfl, HBl.out.trans (hb2.mono HBl.out.size)⟩
        case measure => simp [intOf]; omega
      · rw [hp] at HC
        have HP := hide hp
        clear hp
        go_wp2_with (go_at_call 62; refine HC.out.mono ?_; rintro e w2 ⟨rfl, hb2⟩)
        go_ret
        exact ⟨_, rfl, by rw [any_here (fun e => !p e) xs k x HX.out (by rw [HP.out]; rfl)]; simp, HBl.out.trans (hb2.mono HBl.out.size)⟩
    · obtain rfl : k = n := by omega
      have HF : Hid (xs.take k = xs) := hide (List.take_of_length_le (by rw [HE.out.len]; exact Nat.le_refl _))
      go_wp2
      go_ret
      exact ⟨_, rfl, by rw [← HF.out, HNo.out]; rfl, HBl.out⟩
theorem all_not (p : Ee → Bool) (l : List Ee) : l.all p = !l.any (fun e => !p e) := by
  induction l with
  | nil => rfl
  | cons x l ih => simp [ih]
set_option maxHeartbeats 1600000 in
set_option maxRecDepth 1000000 in
theorem contains_any (g q : Nat) (p : Ee → Bool) (hg : ∀ (x : En) (W : World), x.e.val.length ≤ 9223372036854775807 → Calls Try.prog g #[.agg #[.slice x.ka x.e.key.length x.kc, .slice x.va x.e.val.length x.vc, .int .u32 (x.e.page : Int), .int .u32 (x.e.size : Int)]] W fun e w' => e = .returned (.bool (p x.e)) ∧ Below W.heap.size W w')
    (hen : ∀ args w, (callFunc g args).run Try.prog w = .ok (.enter g args) w)
    (a : Option Addr) (n c : Nat) (xs : List En) (w : World) (h : Ens w a n c xs) (hn : n ≤ 1000000) (hq : w.cell? ⟨q, 0, none⟩ = some (.func (.func g) #[] #[])) :
    Calls Try.prog 61 #[.slice a n c, .func (.func 62) #[] #[.pointer (some ⟨q, 0, none⟩)]] w fun e w' => e = .returned (.bool ((ers xs).any (fun e => !p e))) ∧ Below w.heap.size w w' := by
  have HI := hide (index_any g q p hg hen a n c xs w h hn hq)
  clear h hg hen hq
  go_enter Try.func61, Try.ntmps61
  go_wp2_with fail
  refine HI.out.mono ?_
  rintro e w2 ⟨r, rfl, hr, hb2⟩
  have HR := hide hr
  clear hr
  go_wp2
  go_ret
  exact ⟨by rw [← HR.out]; rfl, hb2⟩
set_option maxHeartbeats 1600000 in
set_option maxRecDepth 1000000 in
theorem all_any (g : Nat) (p : Ee → Bool) (hg : ∀ (x : En) (W : World), x.e.val.length ≤ 9223372036854775807 → Calls Try.prog g #[.agg #[.slice x.ka x.e.key.length x.kc, .slice x.va x.e.val.length x.vc, .int .u32 (x.e.page : Int), .int .u32 (x.e.size : Int)]] W fun e w' => e = .returned (.bool (p x.e)) ∧ Below W.heap.size W w')
    (hen : ∀ args w, (callFunc g args).run Try.prog w = .ok (.enter g args) w)
    (a : Option Addr) (n c : Nat) (xs : List En) (w : World) (h : Ens w a n c xs) (hn : n ≤ 1000000) :
    Calls Try.prog 41 #[.slice a n c, .func (.func g) #[] #[]] w fun e w' => e = .returned (.bool ((ers xs).all p)) ∧ Below w.heap.size w w' := by
  have hmf : ∀ (fn : Fn) (first cap : Array Value) (w : World), (Instr.makeFunc fn first cap).run Try.prog w = .ok (.func fn first cap) w := fun _ _ _ _ => rfl
  have hB1 := below_alloc w (.cells #[.func (.func g) #[] #[]] 75)
  have HB1 := hide hB1
  have HC := hide (contains_any g w.heap.size p hg hen a n c xs _ (h.below hB1) hn (cell_of_one (heap_alloc_new w _)))
  have HA := hide (all_not p (ers xs))
  clear h hg hen hB1
  go_enter Try.func41, Try.ntmps41
  go_wp2_with fail
  refine HC.out.mono ?_
  rintro e w2 ⟨rfl, hb2⟩
  generalize (ers xs).any (fun e => !p e) = B at *
  go_wp2
  go_ret
  exact ⟨by rw [HA.out]; rfl, HB1.out.trans (hb2.mono HB1.out.size)⟩
theorem allval_any (a : Option Addr) (n c : Nat) (xs : List En) (w : World) (h : Ens w a n c xs) (hn : n ≤ 1000000) :
    Calls Try.prog 41 #[.slice a n c, .func (.func 42) #[] #[]] w fun e w' => e = .returned (.bool ((ers xs).all Ee.valOk)) ∧ Below w.heap.size w w' :=
  all_any 42 Ee.valOk (fun x W hv => val_any x W hv) (fun _ _ => by simp [go_sem]) a n c xs w h hn
theorem allkid_any (a : Option Addr) (n c : Nat) (xs : List En) (w : World) (h : Ens w a n c xs) (hn : n ≤ 1000000) :
    Calls Try.prog 41 #[.slice a n c, .func (.func 43) #[] #[]] w fun e w' => e = .returned (.bool ((ers xs).all Ee.kid)) ∧ Below w.heap.size w w' :=
  all_any 43 Ee.kid (fun x W hv => kid_any x W hv) (fun _ _ => by simp [go_sem]) a n c xs w h hn
end Go.Proofs.Ytcflnkepopcofaa
