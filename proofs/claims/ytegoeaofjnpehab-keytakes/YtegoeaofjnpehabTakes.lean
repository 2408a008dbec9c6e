/- The Go function KeyTakes answers true for all bytes and all that falls, and leaves them as they were: bytes that are read as a tuple are the bytes of that tuple, where these are not too long; so are those that a value was split off, and the value may be. No condition. -/
import Derived.Test.YtegoeaofjnpehabXA
import Derived.Test.YtegoeaofjnpehabKP
namespace Go.Proofs.Ytegoeaofjnpehab.Takes
open Go.ChangeShapes Go.WideShapes Go.ChangeAt Go.RowKit
set_option linter.unusedVariables false

set_option maxHeartbeats 1600000 in
set_option maxRecDepth 1000000 in
theorem walk_long (ba da : Option Addr) (yl bc dn dc : Nat) (w : World) (h : 20000 < yl ∨ 20000 < dn) :
    Calls Try.prog 3 #[.slice ba yl bc, .slice da dn dc] w fun e w' => e = .returned (.bool true) ∧ Below w.heap.size w w' := by
  by_cases h1 : 20000 < yl
  · have hyd : decide ((20000 : Int) < (yl : Int)) = true := by simp; omega
    clear h
    go_enter Try.func3, Try.ntmps3
    go_wp2
    go_ret
    exact ⟨rfl, Below.refl _ _⟩
  · have hyd : decide ((20000 : Int) < (yl : Int)) = false := by simp; omega
    have hdd : decide ((20000 : Int) < (dn : Int)) = true := by simp; omega
    clear h
    go_enter Try.func3, Try.ntmps3
    go_wp2
    go_ret
    exact ⟨rfl, Below.refl _ _⟩
theorem walk (ba da : Option Addr) (bc dc : Nat) (ys : List Int) (ds : List Bool) (w : World) (hr : Row w ba ys) (hby : Byts ys) (hcp : ys.length ≤ bc) (hd : Bl w.heap.size w da ds) (hdl : ds.length ≤ 9223372036854775807) :
    Calls Try.prog 3 #[.slice ba ys.length bc, .slice da ds.length dc] w fun e w' => e = .returned (.bool true) ∧ Below w.heap.size w w' := by
  by_cases h1 : 20000 < ys.length ∨ 20000 < ds.length
  · exact walk_long ba da ys.length bc ds.length dc w h1
  have hyl : ys.length ≤ 20000 := by omega
  have hdn : ds.length ≤ 20000 := by omega
  have HDec := hide (decode_out w.heap.size ba bc ys da dc ds w hr hby hyl hcp hd hdl (Nat.le_refl _))
  have HSpl := hide (fun W (hW : Below w.heap.size w W) => split_out ba bc ys (ds.getD 0 false) W (hr.below hW) hby hyl hcp)
  have HRow : Hid (∀ W, Below w.heap.size w W → Row W ba ys) := hide (fun W hW => hr.below hW)
  cases ds with
  | nil => exact walk_nil ba bc ys da dc w _ hyl HDec HSpl HRow
  | cons d0 dr =>
    obtain ⟨bd, od, rfl, HCell⟩ : ∃ bd od, da = some ⟨bd, od, none⟩ ∧ Hid (∀ W, Below w.heap.size w W → W.cell? ⟨bd, od, none⟩ = some (.bool d0)) := by
      rcases hd with h | ⟨bd, od, h1, h2, h3⟩
      · cases h
      · exact ⟨bd, od, h1, fun W hW => (hW.cell (p := ⟨bd, od, none⟩) h2).trans (h3 0 (by simp))⟩
    exact walk_cons ba bc ys bd od dc _ d0 w _ hyl (by simp) hdn HCell HDec HSpl HRow
set_option maxHeartbeats 1600000 in
set_option maxRecDepth 100000 in
theorem lifted (os : Os) (started : os.Started) (H : Type) (enc : TypeId × Value → H) :
    ReturnsInHanded {} Try.checked os 3 .any (Rows.keyTakesSpec.pre6 enc Try.prog Try.f3 Rows.keyTakesRow.domain false) (Rows.keyTakesSpec.post enc Try.prog Try.f3 false true false false) := by
  refine returnsInHanded_of_change (C := Try.checked) own started (by kernel_rfl) Try.func3
    (ChangeSpec.witness6 (enc := enc) (C := Try.checked) false ⟨#[], #[.slice none 0 0, .slice none 0 0], []⟩ 8 (by kernel_rfl) (by kernel_rfl) (by kernel_rfl) (by kernel_rfl)) ?_
  intro W base args ds gs before hval0 hW hcnd _
  have hval : ∀ (j : Nat) t v, Try.f3.params[j]? = some t → args[j]? = some v → Value.okWide Try.prog W .any base t v := hval0
  have hW' := hW
  obtain ⟨p, q, hA0, hV, rfl, hfz, hnd⟩ := hW
  have hA : DataW.TrodAll enc Try.prog W 0 (fun _ => true) true Try.f3.params.toList args.toList ds p := hA0
  rw [Try.params3] at hA hval
  obtain ⟨v0, vs0, d0, ds0, p0, q0, hargs, rfl, rfl, h0, r0⟩ := trodAll_cons hA
  obtain ⟨v1, vs1, d1, ds1, p1, q1, rfl, rfl, rfl, h1, r1⟩ := trodAll_cons r0
  obtain ⟨rfl, rfl, rfl⟩ := trodAll_nil r1
  obtain rfl : args = #[v0, v1] := by cases args; simp_all
  obtain ⟨rfl, rfl⟩ := trodVars_none hV
  obtain ⟨a0, len0, cap0, rfl⟩ := okWide_slice Try.underlying22 (hval 0 22 v0 rfl rfl)
  have k0 := h0
  have lt0 : ∀ x ∈ p0, x.block < W.heap.size := by obtain ⟨m, hm⟩ := k0; exact DataW.trod_lt m _ _ _ hm
  obtain ⟨z2, w2⟩ : ∃ zs, IsRow .u8 W a0 len0 cap0 zs := by
    obtain ⟨fuel, hf⟩ := h0
    rcases open_ints Try.underlying22 Try.underlying5 (by kernel_rfl) hf with ⟨hcs, _⟩ | ⟨x, l, c, zs, hcs, _, hl, hm, hz, _, hcell, hwz⟩
    · simp [Value.cells] at hcs
      obtain ⟨rfl, rfl, rfl⟩ := hcs
      exact ⟨[], .inl ⟨rfl, rfl, rfl, rfl⟩⟩
    · simp [Value.cells] at hcs
      obtain ⟨rfl, rfl, rfl⟩ := hcs
      exact ⟨zs, .inr ⟨_, rfl, hl, hm, by simpa using hz, hcell, hwz⟩⟩
  obtain ⟨a1, len1, cap1, rfl⟩ := okWide_slice Try.underlying23 (hval 1 23 v1 rfl rfl)
  have k1 := h1
  have lt1 : ∀ x ∈ p1, x.block < W.heap.size := by obtain ⟨m, hm⟩ := k1; exact DataW.trod_lt m _ _ _ hm
  obtain ⟨da, dc, dd, e1, m1, n1⟩ : ∃ da dc, ∃ ds : List Bool, Value.slice a1 len1 cap1 = .slice da ds.length dc ∧ Bl W.heap.size W da ds ∧ ds.length ≤ 9223372036854775807 := by
    obtain ⟨fuel, hf⟩ := h1
    exact read_bools fuel _ _ hf
  cases e1
  clear hA0 hval0
  obtain ⟨hrow2, hbyt2, hlen2, hlc2, hcm2, hnil2⟩ := isrow_row w2
  have hwk := walk a0 a1 cap0 cap1 (z2.take len0) dd W hrow2 hbyt2 (by rw [hlen2]; exact hlc2) m1 n1
  rw [hlen2] at hwk
  refine hwk.mono fun e W' ⟨he, bel⟩ => ?_
  subst he
  exact ⟨_, rfl, _, _, _, [], _, [], hW', trodAll_mk1 (shut_bool Try.underlying4 _), (trodAll_cons_mk (Below.trod laidOut (by kernel_rfl) (of_decide_eq_true (by kernel_rfl)) k0 bel lt0) (trodAll_cons_mk (Below.trod laidOut (by kernel_rfl) (of_decide_eq_true (by kernel_rfl)) k1 bel lt1) trodAll_mk0)), rfl, bel.frame _, fun h => by cases h⟩

theorem over : Rows.keyTakesRow.holds Try.pinned (OpenSpec.ofChange Rows.keyTakesSpec) :=
  OpenClaim.holds_of_wide 3 Try.f3 rfl rfl rfl rfl rfl rfl rfl ⟨rfl, rfl, rfl, rfl, rfl⟩ rfl rfl rfl rfl rfl (by kernel_rfl) Try.func3 (by kernel_rfl)
    (of_decide_eq_true (by kernel_rfl)) (by unfold Func.isWrapper; first | (rw [if_pos (by decide +kernel)]; kernel_rfl) | (rw [if_neg (by decide +kernel)]; exact ⟨rfl, rfl⟩))
    (fun os started H enc _ => lifted os started H enc)

end Go.Proofs.Ytegoeaofjnpehab.Takes
namespace Go.Proofs.Ytegoeaofjnpehab
theorem keyTakes_holds : Rows.KeyTakesSaid := Takes.over
#print axioms keyTakes_holds
end Go.Proofs.Ytegoeaofjnpehab
