/- Contracts of asking whether entries that were lent are whole. -/
import Derived.Test.YtfpojfohlmhklaaZG
namespace Go.Proofs.Ytfpojfohlmhklaa
open Go.RowKit
set_option linter.unusedVariables false

set_option maxHeartbeats 3200000 in
set_option maxRecDepth 1000000 in
theorem wholee_any (B g : Nat) (b : Option Addr) (n d : Nat) (xs ys : List En) (w : World) (hr : w.ownsRow B 67 4 (.slice (some ⟨g, 0, none⟩) (n + 1) (n + 1)) (n + 1) (rowc (ys ++ [e77]))) (hy : ∀ y ∈ ys, y.Lt B w) (hx : Ens w b n d xs) (he : ers ys = ers xs) (hn : n ≤ 1000) (hw : wts (ers xs) ≤ 100000) :
    Calls Try.prog 9 #[.slice (some ⟨g, 0, none⟩) n (n + 1), .slice b n d] w fun e w' => e = .returned (.bool true) ∧ Below w.heap.size w w' := by
  have hyl : ys.length = n := by have := congrArg List.length he; rw [ers_len, ers_len, hx.len] at this; exact this
  have hcell : ∀ j u, (rowc (ys ++ [e77]))[j]? = some u → w.cell? ⟨g, j, none⟩ = some u := fun j u hu => by
    have := hr.cells (g := g) rfl j u hu
    rwa [Addr.add_lit, Nat.zero_add] at this
  have c77 : w.cell? ⟨g, n * 4 + 2, none⟩ = some (.int .u32 77) := hcell _ _ (rowc_at (x := e77) (by rw [List.getElem?_append_right (by omega)]; simp [hyl]) rfl)
  have hyE : Ens w (some ⟨g, 0, none⟩) n (n + 1) ys := by
    have hb := hx.len
    refine ⟨hyl, by omega, by omega, fun e => (by cases e), .inr ⟨g, 0, rfl, World.block_lt_of_cell? w _ c77, fun j u hu => ?_⟩, fun y hm => (hy y hm).ok ?_ ?_⟩
    · rw [Nat.zero_add]
      exact hcell j u (by rw [rowc_app, List.getElem?_append_left (by rw [rowc_len]; have := (List.getElem?_eq_some_iff.1 hu).1; rw [rowc_len] at this; exact this)]; exact hu)
    · have := wts_mem (e := y.e) (es := ers xs) (by rw [← he]; exact List.mem_map.2 ⟨y, hm, rfl⟩); omega
    · have := wts_mem (e := y.e) (es := ers xs) (by rw [← he]; exact List.mem_map.2 ⟨y, hm, rfl⟩); omega
  have hnb : ((n : Int) != (n : Int)) = false := by simp
  have HX := hide hx
  have HY := hide hyE
  have HE := hide he
  have HLt := hide hy
  have HWt := hide hw
  have hcp : decide ((n : Int) + 1 < (n : Int) + 1) = false := decide_eq_false (by omega)
  clear hx hy hyE he hcell hr hyl hw
  go_enter Try.func9, Try.ntmps9
  go_wp2
  go_loopw [6] (fun i wr => ∃ k : Nat, k ≤ n ∧ i = .int .i64 (k : Int) ∧ Below w.heap.size w wr) (fun i _ => n - (intOf i).toNat)
  case atStart => exact ⟨0, Nat.zero_le _, rfl, Below.refl _ _⟩
  case round =>
    obtain ⟨k, hk, rfl, hbl⟩ := hrel
    have HBl := hide hbl
    by_cases hlt : k < n
    · obtain ⟨y, hyk, -⟩ := (HY.out.below hbl).at hlt
      obtain ⟨x, hx, hokx⟩ := (HX.out.below hbl).at hlt
      have hxy : y.e = x.e := by
        have h1 := ers_at hyk
        have h2 := ers_at hx
        rw [HE.out, h2] at h1
        simpa using h1.symm
      obtain ⟨b1, o1, e1, -, c0, c1, c2, c3⟩ := (HY.out.below hbl).cells hyk
      cases e1
      obtain ⟨b2, o2, rfl, -, e0, e1, e2, e3⟩ := (HX.out.below hbl).cells hx
      have hlt' := (HLt.out y (List.mem_of_getElem? hyk)).below hbl
      obtain ⟨kg, k1, -, k3⟩ := hlt'.key
      obtain ⟨vg, v1, -, v3⟩ := hlt'.val
      have hkc := hlt'.kc
      have hvc := hlt'.vc
      rw [k1, hkc] at c0
      rw [v1, hvc] at c1
      rw [hxy] at c0 c1 c2 c3 k3 v3
      rw [Nat.zero_add] at c0 c1 c2 c3
      have hwx := mem_wts hx
      have hkl : x.e.key.length ≤ 100000 := by have := HWt.out; omega
      have hvl : x.e.val.length ≤ 100000 := by have := HWt.out; omega
      have HK1 := hide (Le.whole_any kg x.ka x.e.key.length x.kc x.e.key wr.drew (by omega) (own_row (k3.below (Below.refl _ _).drew)) (hokx.key.below (Below.refl _ _).drew))
      have HV1 := hide (fun W (hW : Below wr.heap.size wr W) => Le.whole_any vg x.va x.e.val.length x.vc x.e.val W (by omega) (own_row (v3.below hW)) (hokx.val.below hW))
      have HSt : Hid (∀ W, Below wr.heap.size wr W → W.cell? ⟨g, k * 4, none⟩ = some (.slice (some ⟨kg, 0, none⟩) x.e.key.length (x.e.key.length + 2)) ∧ W.cell? ⟨g, k * 4 + 1, none⟩ = some (.slice (some ⟨vg, 0, none⟩) x.e.val.length (x.e.val.length + 2)) ∧ W.cell? ⟨g, k * 4 + 2, none⟩ = some (.int .u32 (x.e.page : Int)) ∧ W.cell? ⟨g, k * 4 + 3, none⟩ = some (.int .u32 (x.e.size : Int)) ∧ W.cell? ⟨b2, o2 + k * 4, none⟩ = some (.slice x.ka x.e.key.length x.kc) ∧ W.cell? ⟨b2, o2 + k * 4 + 1, none⟩ = some (.slice x.va x.e.val.length x.vc) ∧ W.cell? ⟨b2, o2 + k * 4 + 2, none⟩ = some (.int .u32 (x.e.page : Int)) ∧ W.cell? ⟨b2, o2 + k * 4 + 3, none⟩ = some (.int .u32 (x.e.size : Int))) := hide fun W hW => ⟨cstays hW c0, cstays hW c1, cstays hW c2, cstays hW c3, cstays hW e0, cstays hW e1, cstays hW e2, cstays hW e3⟩
      have p1 : ((x.e.page : Int) != (x.e.page : Int)) = false := by simp
      have p2 : ((x.e.size : Int) != (x.e.size : Int)) = false := by simp
      have i1 : (0 : Int) ≤ (k : Int) := by omega
      have i2 : (k : Int) < (n : Int) := by omega
      clear hx hyk hokx hxy hlt' k1 k3 v1 v3 hkc hvc hbl hwx c77
      have M1 := hide trivial
      go_wp2
      go_region_held3 (fun W => W.cell? ⟨g, k * 4, none⟩ = some (.slice (some ⟨kg, 0, none⟩) x.e.key.length (x.e.key.length + 2)) ∧ W.cell? ⟨g, k * 4 + 1, none⟩ = some (.slice (some ⟨vg, 0, none⟩) x.e.val.length (x.e.val.length + 2)) ∧ W.cell? ⟨g, k * 4 + 2, none⟩ = some (.int .u32 (x.e.page : Int)) ∧ W.cell? ⟨g, k * 4 + 3, none⟩ = some (.int .u32 (x.e.size : Int)) ∧ W.cell? ⟨b2, o2 + k * 4, none⟩ = some (.slice x.ka x.e.key.length x.kc) ∧ W.cell? ⟨b2, o2 + k * 4 + 1, none⟩ = some (.slice x.va x.e.val.length x.vc) ∧ W.cell? ⟨b2, o2 + k * 4 + 2, none⟩ = some (.int .u32 (x.e.page : Int)) ∧ W.cell? ⟨b2, o2 + k * 4 + 3, none⟩ = some (.int .u32 (x.e.size : Int))) ((refine ⟨?_, ?_, ?_, ?_, ?_, ?_, ?_, ?_⟩ <;> assumption)) ((first | (go_at_call 24; have hmk := M1; clear hmk M1; refine HK1.out.mono ?_; intro r' w3 hh; obtain ⟨rfl, hb3⟩ := hh; have HB3 := hide ((Below.refl wr.heap.size wr).drew.trans hb3); clear hb3 c0 c1 c2 c3 e0 e1 e2 e3; obtain ⟨c0, c1, c2, c3, e0, e1, e2, e3⟩ := HSt.out w3 HB3.out; have M2 := hide trivial) | (go_at_call 24; have hmk := M2; clear hmk M2; refine (HV1.out _ HB3.out).mono ?_; intro r' w4 hh; obtain ⟨rfl, hb4⟩ := hh; have HB4 := hide (HB3.out.trans (hb4.mono HB3.out.size)); clear hb4 c0 c1 c2 c3 e0 e1 e2 e3; obtain ⟨c0, c1, c2, c3, e0, e1, e2, e3⟩ := HSt.out w4 HB4.out)))
      go_wp2
      go_roundw
      case rel => exact ⟨k + 1, by omega, by go_num, HBl.out.trans (HB4.out.mono HBl.out.size)⟩
      case measure => simp [intOf]; omega
    · go_wp2
      go_ret
      exact ⟨rfl, HBl.out⟩
end Go.Proofs.Ytfpojfohlmhklaa
