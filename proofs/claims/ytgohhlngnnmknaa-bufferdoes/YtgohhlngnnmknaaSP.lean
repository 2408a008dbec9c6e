/- Two answers are the same. -/
import Derived.Test.YtgohhlngnnmknaaE
import Derived.Test.YtgohhlngnnmknaaIH
import Derived.Test.YtgohhlngnnmknaaWM
namespace Go.Proofs.Ytgohhlngnnmknaa
open Go.RowKit Go.Maps
set_option linter.unusedVariables false

theorem ens_box {w : World} {y : En} (h : y.Ok w) : Ens (w.alloc (.cells #[.slice y.ka y.e.key.length y.kc, .slice y.va y.e.val.length y.vc, .bool y.e.del] 85)) (some ⟨w.heap.size, 0, none⟩) 1 1 [y] := by
  refine ⟨rfl, Nat.le_refl _, by omega, (by intro e; cases e), .inr ⟨w.heap.size, 0, rfl, by simp, fun j u hu => ?_⟩, fun x hx => ?_⟩
  · have e : rowc [y] = [.slice y.ka y.e.key.length y.kc, .slice y.va y.e.val.length y.vc, .bool y.e.del] := by simp [rowc, En.cells]
    rw [e] at hu
    rw [World.cell?_alloc_at _ _ _ _ rfl, Nat.zero_add]
    simpa using hu
  · rw [List.mem_singleton.1 hx]
    exact h.below (below_alloc w _)
set_option maxHeartbeats 1600000 in
set_option maxRecDepth 1000000 in
theorem same_any {w : World} (y z : En) (hy : y.Ok w) (hz : z.Ok w) (he : y.e = z.e) (f : Bool) :
    Calls Try.prog 32 #[y.v, .bool f, z.v, .bool f] w fun e w' => e = .returned (.bool true) ∧ Below w.heap.size w w' := by
  obtain ⟨w1, hw1⟩ : ∃ w1, w1 = w.alloc (.cells #[.slice y.ka y.e.key.length y.kc, .slice y.va y.e.val.length y.vc, .bool y.e.del] 85) := ⟨_, rfl⟩
  have hB1 : Below w.heap.size w w1 := by rw [hw1]; exact below_alloc _ _
  obtain ⟨w2, hw2⟩ : ∃ w2, w2 = w1.alloc (.cells #[.slice z.ka z.e.key.length z.kc, .slice z.va z.e.val.length z.vc, .bool z.e.del] 85) := ⟨_, rfl⟩
  have hB2 : Below w.heap.size w w2 := hB1.trans ((by rw [hw2]; exact below_alloc _ _ : Below w1.heap.size w1 w2).mono hB1.size)
  have HY := hide hy
  have HZ := hide hz
  have HEq := hide he
  clear hy hz he
  unfold En.v
  go_enter Try.func32, Try.ntmps32
  have hn1 : w1.heap.size = w.heap.size + 1 := by rw [hw1]; simp
  have hn2 : w2.heap.size = w.heap.size + 1 + 1 := by rw [hw2]; simp [hn1]
  obtain ⟨w3, hw3⟩ : ∃ w3, w3 = w2.alloc (.cells #[.slice y.ka y.e.key.length y.kc, .slice y.va y.e.val.length y.vc, .bool y.e.del] 85) := ⟨_, rfl⟩
  obtain ⟨w4, hw4⟩ : ∃ w4, w4 = w3.alloc (.cells #[.slice z.ka z.e.key.length z.kc, .slice z.va z.e.val.length z.vc, .bool z.e.del] 85) := ⟨_, rfl⟩
  have hn3 : w3.heap.size = w.heap.size + 1 + 1 + 1 := by rw [hw3]; simp [hn2]
  have hB3 : Below w.heap.size w w3 := hB2.trans ((by rw [hw3]; exact below_alloc _ _ : Below w2.heap.size w2 w3).mono hB2.size)
  have b34 : Below w3.heap.size w3 w4 := by rw [hw4]; exact below_alloc _ _
  have hB4 : Below w.heap.size w w4 := hB3.trans (b34.mono hB3.size)
  have e1 := (hw3 ▸ ens_box (HY.out.below hB2) : Ens w3 _ 1 1 [y]).below b34
  have e2 : Ens w4 _ 1 1 [z] := hw4 ▸ ens_box (HZ.out.below hB3)
  rw [hn2] at e1
  rw [hn3] at e2
  have HS := hide (samec_yes _ _ 1 1 1 [y] [z] w4 e1 e2 (by simp [ers, HEq.out]) (by omega))
  have HB4 := hide hB4
  rw [hw4, hw3, hw2, hw1] at HS HB4
  go_wp2_with (first | (go_at_call 11; refine HS.out.mono ?_; rintro e w5 ⟨rfl, hb5⟩) | fail)
  go_ret
  exact ⟨rfl, HB4.out.trans (hb5.mono HB4.out.size)⟩
end Go.Proofs.Ytgohhlngnnmknaa
/- SamePairs, of pairs that are the same. -/
namespace Go.Proofs.Ytgohhlngnnmknaa
open Go.RowKit Go.Maps
set_option linter.unusedVariables false
set_option maxHeartbeats 3200000 in
set_option maxRecDepth 1000000 in
theorem samep_yes (a b : Option Addr) (n c d : Nat) (xs ys : List En) (w : World) (h : Prs w a n c xs) (k : Prs w b n d ys) (he : (ers xs).map cle = (ers ys).map cle) (hn : n ≤ 1000000) :
    Calls Try.prog 38 #[.slice a n c, .slice b n d] w fun e w' => e = .returned (.bool true) ∧ Below w.heap.size w w' := by
  have hnb : ((n : Int) != (n : Int)) = false := by simp
  have HX := hide h
  have HY := hide k
  have HE := hide he
  clear h k he
  go_enter Try.func38, Try.ntmps38
  go_wp2
  go_loopw [5] (fun i wr => ∃ k : Nat, k ≤ n ∧ i = .int .i64 (k : Int) ∧ Below w.heap.size w wr) (fun i _ => n - (intOf i).toNat)
  case atStart => exact ⟨0, Nat.zero_le _, rfl, Below.refl _ _⟩
  case round =>
    obtain ⟨k, hk, rfl, hbl⟩ := hrel
    have HBl := hide hbl
    by_cases hlt : k < n
    · obtain ⟨x, b1, o1, hx, rfl, _, c0, c1, hokx⟩ := (HX.out.below hbl).at hlt
      obtain ⟨y, b2, o2, hy, rfl, _, e0, e1, hoky⟩ := (HY.out.below hbl).at hlt
      have hxy : x.e.key = y.e.key ∧ x.e.val = y.e.val := by
        have h1 : ((ers xs).map cle)[k]? = some (cle x.e) := by rw [List.getElem?_map, ers_at hx]; rfl
        have h2 : ((ers ys).map cle)[k]? = some (cle y.e) := by rw [List.getElem?_map, ers_at hy]; rfl
        rw [HE.out, h2] at h1
        have h3 : cle y.e = cle x.e := by simpa using h1
        exact ⟨(congrArg Ee.key h3).symm, (congrArg Ee.val h3).symm⟩
      have kx := hokx.key
      have vx := hokx.val
      have ky := hoky.key
      have vy := hoky.val
      rw [hxy.1] at c0 kx
      rw [hxy.2] at c1 vx
      have HK1 := hide (sameb_yes x.ka y.ka y.e.key.length x.kc y.kc y.e.key wr.drew (kx.below (Below.refl _ _).drew) (ky.below (Below.refl _ _).drew))
      have HV1 := hide (fun W (hW : Below wr.heap.size wr W) => sameb_yes x.va y.va y.e.val.length x.vc y.vc y.e.val W (vx.below hW) (vy.below hW))
      have HSt : Hid (∀ W, Below wr.heap.size wr W → W.cell? ⟨b1, o1 + k * 2, none⟩ = some (.slice x.ka y.e.key.length x.kc) ∧ W.cell? ⟨b1, o1 + k * 2 + 1, none⟩ = some (.slice x.va y.e.val.length x.vc) ∧ W.cell? ⟨b2, o2 + k * 2, none⟩ = some (.slice y.ka y.e.key.length y.kc) ∧ W.cell? ⟨b2, o2 + k * 2 + 1, none⟩ = some (.slice y.va y.e.val.length y.vc)) := hide fun W hW => ⟨one_below1 c0 hW, one_below1 c1 hW, one_below1 e0 hW, one_below1 e1 hW⟩
      have i1 : (0 : Int) ≤ (k : Int) := by omega
      have i2 : (k : Int) < (n : Int) := by omega
      clear hx hy hokx hoky hxy kx vx ky vy hbl
      go_wp2
      go_region_held3 (fun W => W.cell? ⟨b1, o1 + k * 2, none⟩ = some (.slice x.ka y.e.key.length x.kc) ∧ W.cell? ⟨b1, o1 + k * 2 + 1, none⟩ = some (.slice x.va y.e.val.length x.vc) ∧ W.cell? ⟨b2, o2 + k * 2, none⟩ = some (.slice y.ka y.e.key.length y.kc) ∧ W.cell? ⟨b2, o2 + k * 2 + 1, none⟩ = some (.slice y.va y.e.val.length y.vc)) ((refine ⟨?_, ?_, ?_, ?_⟩ <;> assumption)) ((first | (go_at_call_of 43 (Value.slice x.ka y.e.key.length x.kc); refine HK1.out.mono ?_; intro r' w3 hh; obtain ⟨rfl, hb3⟩ := hh; have HB3 := hide ((Below.refl wr.heap.size wr).drew.trans hb3); clear hb3 c0 c1 e0 e1; obtain ⟨c0, c1, e0, e1⟩ := HSt.out w3 HB3.out) | (go_at_call_of 43 (Value.slice x.va y.e.val.length x.vc); refine (HV1.out _ HB3.out).mono ?_; intro r' w4 hh; obtain ⟨rfl, hb4⟩ := hh; have HB4 := hide (HB3.out.trans (hb4.mono HB3.out.size)); clear hb4 c0 c1 e0 e1; obtain ⟨c0, c1, e0, e1⟩ := HSt.out w4 HB4.out)))
      go_wp2
      go_roundw
      case rel => exact ⟨k + 1, by omega, by go_num, HBl.out.trans (HB4.out.mono HBl.out.size)⟩
      case measure => simp [intOf]; omega
    · go_wp2
      go_ret
      exact ⟨rfl, HBl.out⟩
end Go.Proofs.Ytgohhlngnnmknaa
