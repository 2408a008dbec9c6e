/- SameChanges, of changes that are the same. -/
import Derived.Test.YtpoanlbjhhlagaaFL
namespace Go.Proofs.Ytpoanlbjhhlagaa
open Go.RowKit Go.Maps
set_option linter.unusedVariables false
theorem one_below1 {w W : World} {q j : Nat} {v : Value} (hq : w.cell? ⟨q, j, none⟩ = some v) (hb : Below w.heap.size w W) : W.cell? ⟨q, j, none⟩ = some v := (hb.cell (p := ⟨q, j, none⟩) (World.block_lt_of_cell? w _ hq)).trans hq
set_option maxHeartbeats 3200000 in
set_option maxRecDepth 1000000 in
theorem sames_yes (a b : Option Addr) (n c d : Nat) (xs ys : List En) (w : World) (h : Ens w a n c xs) (k : Ens w b n d ys) (he : ers xs = ers ys) (hn : n ≤ 1000000) :
    Calls Try.prog 19 #[.slice a n c, .slice b n d] w fun e w' => e = .returned (.bool true) ∧ Below w.heap.size w w' := by
  have hnb : ((n : Int) != (n : Int)) = false := by simp
  have HX := hide h
  have HY := hide k
  have HE := hide he
  clear h k he
  go_enter Try.func19, Try.ntmps19
  go_wp2
  go_loopw [5] (fun i wr => ∃ k : Nat, k ≤ n ∧ i = .int .i64 (k : Int) ∧ Below w.heap.size w wr) (fun i _ => n - (intOf i).toNat)
  case atStart => exact ⟨0, Nat.zero_le _, rfl, Below.refl _ _⟩
  case round =>
    obtain ⟨k, hk, rfl, hbl⟩ := hrel
    have HBl := hide hbl
    by_cases hlt : k < n
    · obtain ⟨x, hx, hokx⟩ := (HX.out.below hbl).at hlt
      obtain ⟨y, hy, hoky⟩ := (HY.out.below hbl).at hlt
      have hxy : x.e = y.e := by
        have h1 := ers_at hx
        have h2 := ers_at hy
        rw [HE.out, h2] at h1
        simpa using h1.symm
      obtain ⟨b1, o1, rfl, _, c0, c1, c2⟩ := (HX.out.below hbl).cells hx
      obtain ⟨b2, o2, rfl, _, e0, e1, e2⟩ := (HY.out.below hbl).cells hy
      have kx := hokx.key
      have vx := hokx.val
      have ky := hoky.key
      have vy := hoky.val
      rw [hxy] at c0 c1 c2 kx vx
      have HK1 := hide (sameb_yes x.ka y.ka y.e.key.length x.kc y.kc y.e.key wr.drew (kx.below (Below.refl _ _).drew) (ky.below (Below.refl _ _).drew))
      have HV1 := hide (fun W (hW : Below wr.heap.size wr W) => sameb_yes x.va y.va y.e.val.length x.vc y.vc y.e.val W (vx.below hW) (vy.below hW))
      have HSt : Hid (∀ W, Below wr.heap.size wr W → W.cell? ⟨b1, o1 + k * 3, none⟩ = some (.slice x.ka y.e.key.length x.kc) ∧ W.cell? ⟨b1, o1 + k * 3 + 1, none⟩ = some (.slice x.va y.e.val.length x.vc) ∧ W.cell? ⟨b1, o1 + k * 3 + 2, none⟩ = some (.bool y.e.del) ∧ W.cell? ⟨b2, o2 + k * 3, none⟩ = some (.slice y.ka y.e.key.length y.kc) ∧ W.cell? ⟨b2, o2 + k * 3 + 1, none⟩ = some (.slice y.va y.e.val.length y.vc) ∧ W.cell? ⟨b2, o2 + k * 3 + 2, none⟩ = some (.bool y.e.del)) := hide fun W hW => ⟨one_below1 c0 hW, one_below1 c1 hW, one_below1 c2 hW, one_below1 e0 hW, one_below1 e1 hW, one_below1 e2 hW⟩
      have p1 : (y.e.del != y.e.del) = false := by simp
      have i1 : (0 : Int) ≤ (k : Int) := by omega
      have i2 : (k : Int) < (n : Int) := by omega
      clear hx hy hokx hoky hxy kx vx ky vy hbl
      go_wp2
      go_region_held3 (fun W => W.cell? ⟨b1, o1 + k * 3, none⟩ = some (.slice x.ka y.e.key.length x.kc) ∧ W.cell? ⟨b1, o1 + k * 3 + 1, none⟩ = some (.slice x.va y.e.val.length x.vc) ∧ W.cell? ⟨b1, o1 + k * 3 + 2, none⟩ = some (.bool y.e.del) ∧ W.cell? ⟨b2, o2 + k * 3, none⟩ = some (.slice y.ka y.e.key.length y.kc) ∧ W.cell? ⟨b2, o2 + k * 3 + 1, none⟩ = some (.slice y.va y.e.val.length y.vc) ∧ W.cell? ⟨b2, o2 + k * 3 + 2, none⟩ = some (.bool y.e.del)) ((refine ⟨?_, ?_, ?_, ?_, ?_, ?_⟩ <;> assumption)) ((first | (go_at_call_of 41 (Value.slice x.ka y.e.key.length x.kc); refine HK1.out.mono ?_; intro r' w3 hh; obtain ⟨rfl, hb3⟩ := hh; have HB3 := hide ((Below.refl wr.heap.size wr).drew.trans hb3); clear hb3 c0 c1 c2 e0 e1 e2; obtain ⟨c0, c1, c2, e0, e1, e2⟩ := HSt.out w3 HB3.out) | (go_at_call_of 41 (Value.slice x.va y.e.val.length x.vc); refine (HV1.out _ HB3.out).mono ?_; intro r' w4 hh; obtain ⟨rfl, hb4⟩ := hh; have HB4 := hide (HB3.out.trans (hb4.mono HB3.out.size)); clear hb4 c0 c1 c2 e0 e1 e2; obtain ⟨c0, c1, c2, e0, e1, e2⟩ := HSt.out w4 HB4.out)))
      go_wp2
      go_roundw
      case rel => exact ⟨k + 1, by omega, by go_num, HBl.out.trans (HB4.out.mono HBl.out.size)⟩
      case measure => simp [intOf]; omega
    · go_wp2
      go_ret
      exact ⟨rfl, HBl.out⟩
end Go.Proofs.Ytpoanlbjhhlagaa
