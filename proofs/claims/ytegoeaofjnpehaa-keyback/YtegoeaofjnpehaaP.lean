/- Contract of Decode, of the known bytes. -/
import Derived.Test.YtegoeaofjnpehaaO
namespace Go.Proofs.Ytegoeaofjnpehaa
open Go.RowKit
set_option linter.unusedVariables false

theorem Try.info41 : (Try.prog.info? 41).map (fun i => (i.zero, i.size, i.bytes)) = some (some (.agg #[.int .u8 0, .bool false, .int .i64 0, .string ⟨#[]⟩, .slice none 0 0, .slice none 0 0, .slice none 0 0]), 7, 104) := by kernel_rfl
def kb : List Int := [64, 97, 0, 1, 207, 127, 255, 255, 255, 255, 255, 255, 254]
theorem kb_is : k1 ++ k2 = kb := by decide
theorem kb_byts : Byts kb := by unfold Byts kb; decide
theorem kb4_byts : Byts (kb.drop 4) := kb_byts.drop 4
theorem bk97 : bk [97] = ⟨#[97]⟩ := rfl
theorem first_one (cap : Nat) (a : Option Addr) (w : World) (hrow : Row w a kb) :
    Calls Try.prog 22 #[.slice a kb.length cap, .bool false] w fun e w' => e = .returned (.tuple #[vT ⟨#[97]⟩, .int .i64 4, .bool true]) ∧ Below w.heap.size w w' :=
  first_leaf false 0 64 a cap kb 4 4 0 ⟨#[97]⟩ w hrow kb_byts (by decide) (by omega) (by decide) (by decide) (fun W => turning_up W) (fun W => checkT W)
    (fun W p q h => value_text p a cap kb 1 0 q 0 [97] (kb.drop 4) W h (by omega) (by decide) (by unfold Byts; decide) (by decide))
theorem first_two (cap : Nat) (a : Option Addr) (w : World) (hrow : Row w a (kb.drop 4)) :
    Calls Try.prog 22 #[.slice a (kb.drop 4).length cap, .bool true] w fun e w' => e = .returned (.tuple #[vI 1, .int .i64 9, .bool true]) ∧ Below w.heap.size w w' :=
  first_leaf true 255 48 a cap (kb.drop 4) 9 3 1 ⟨#[]⟩ w hrow kb4_byts (by decide) (by omega) (by decide) (by decide) (fun W => turning_down W) (fun W => checkI 1 W)
    (fun W p q h => (show unX (jb ((((kb.drop 4).drop 1).take 8).map (tn 255))) = 1 by decide +kernel) ▸ value_num p a cap (kb.drop 4) 1 0 q 255 W h (by omega) (by decide))
theorem first_two' (cap b o : Nat) (w : World) (hrow : Row w (some ⟨b, o, none⟩) (kb.drop 4)) :
    Calls Try.prog 22 #[.slice (some ⟨b, o, none⟩) 9 cap, .bool true] w fun e w' => e = .returned (.tuple #[vI 1, .int .i64 9, .bool true]) ∧ Below w.heap.size w w' := first_two cap (some ⟨b, o, none⟩) w hrow
/-- the cells of the known tuple. -/
def kc1 : List Value := [.int .u8 4, .bool false, .int .i64 0, .string ⟨#[97]⟩, .slice none 0 0, .slice none 0 0, .slice none 0 0]
def kc2 : List Value := [.int .u8 3, .bool false, .int .i64 1, .string ⟨#[]⟩, .slice none 0 0, .slice none 0 0, .slice none 0 0]
theorem Row.drop {w : World} {b o : Nat} {zs : List Int} (h : Row w (some ⟨b, o, none⟩) zs) (k : Nat) : Row w (some ⟨b, o + k, none⟩) (zs.drop k) := by
  by_cases hk : k < zs.length
  · rcases h with h0 | ⟨b', o', e, hlt, hc⟩
    · subst h0; simp at hk
    · cases e
      refine .inr ⟨b, o + k, rfl, hlt, fun i hi => ?_⟩
      rw [List.length_drop] at hi
      have := hc (k + i) (by omega)
      rw [Nat.add_assoc, this]
      simp [List.getD_eq_getElem?_getD]
  · exact .inl (List.drop_eq_nil_of_le (by omega))

theorem owns_of_block {w w' : World} {B e s : Nat} {v : Value} {n : Nat} {xs : List Value} (h : w.ownsRow B e s v n xs) (hb : ∀ k, v.ownBlock = some k → w'.heap[k]? = w.heap[k]?) : w'.ownsRow B e s v n xs := by
  obtain ⟨h1, h2⟩ := h
  refine ⟨h1, ?_⟩
  rcases h2 with h2 | ⟨g, cap, cur, rfl, hg, hh, r⟩
  · exact .inl h2
  · exact .inr ⟨g, cap, cur, rfl, hg, by rw [hb g rfl]; exact hh, r⟩
theorem owns_below {w w' : World} {B e s : Nat} {v : Value} {n : Nat} {xs : List Value} (h : w.ownsRow B e s v n xs) (hb : Below w.heap.size w w') : w'.ownsRow B e s v n xs :=
  owns_of_block h fun k hk => hb.block k (World.ownsRow.lt h k hk).2
theorem news7 (w : World) (c0 c1 c2 c3 c4 c5 c6 : Value) : ∀ j u, [c0, c1, c2, c3, c4, c5, c6][j]? = some u → (w.alloc (.cells #[c0, c1, c2, c3, c4, c5, c6] 41)).cell? ((⟨w.heap.size, 0, none⟩ : Addr).add j) = some u := by
  intro j u hu
  obtain ⟨h0, h1, h2, h3, h4, h5, h6⟩ := (Box7.new w c0 c1 c2 c3 c4 c5 c6).cells
  rw [Addr.add_lit, Nat.zero_add]
  match j, hu with
  | 0, hu => simp at hu; subst hu; exact h0
  | 1, hu => simp at hu; subst hu; exact h1
  | 2, hu => simp at hu; subst hu; exact h2
  | 3, hu => simp at hu; subst hu; exact h3
  | 4, hu => simp at hu; subst hu; exact h4
  | 5, hu => simp at hu; subst hu; exact h5
  | 6, hu => simp at hu; subst hu; exact h6
  | j + 7, hu => simp at hu
theorem bcell {W w1 : World} (hb : Below W.heap.size W w1) : (∀ b o, b < W.heap.size → w1.cell? ⟨b, o, none⟩ = W.cell? ⟨b, o, none⟩) ∧ (∀ b o, b < W.heap.size → w1.frozen? ⟨b, o, none⟩ = W.frozen? ⟨b, o, none⟩) :=
  ⟨fun b o h => hb.cell (p := ⟨b, o, none⟩) h, fun b o h => hb.frozen (p := ⟨b, o, none⟩) h⟩
theorem ownsRow_shape {w : World} {B e s : Nat} {v : Value} {n : Nat} {xs : List Value} (h : w.ownsRow B e s v n xs) : ∃ a c, v = .slice a n c := by
  rcases h.2 with ⟨rfl, rfl⟩ | ⟨g, cap, cur, rfl, _⟩
  · exact ⟨none, 0, rfl⟩
  · exact ⟨_, _, rfl⟩
set_option maxHeartbeats 3200000 in
set_option maxRecDepth 1000000 in
theorem decode_known (b o cap bl bd : Nat) (w : World) (hrow : Row w (some ⟨b, o, none⟩) kb) (hk : Kn w bl bd) (hcap : 13 ≤ cap) :
    Calls Try.prog 11 #[.slice (some ⟨b, o, none⟩) 13 cap, .slice (some ⟨bd, 0, none⟩) 2 2] w fun e w' => ∃ v, e = .returned (.tuple #[v, .int .u16 0, .int .i64 0]) ∧ w'.ownsRow w.heap.size 41 7 v 2 (kc1 ++ kc2) ∧ Below w.heap.size w w' := by
  obtain ⟨i0, hi, hz0, hz1, hz2⟩ := info_parts Try.info41
  have hlt1 : bl < w.heap.size := lt_of_block hk.l
  have hlt2 : bd < w.heap.size := lt_of_block hk.d
  have HK := hide hk
  have HRw := hide hrow
  have HF0 := hide (Fr.refl w)
  clear hk hrow
  generalize hB : w.heap.size = B at *
  have HBB := hide hB
  clear hB
  go_enter Try.func11, Try.ntmps11
  go_wp2
  go_loopw [7, 8] (fun l s wr => ∃ (j n : Nat) (cs : List Value), s = .int .i64 (j : Int) ∧ ((j = 0 ∧ n = 0 ∧ cs = []) ∨ (j = 4 ∧ n = 1 ∧ cs = kc1) ∨ (j = 13 ∧ n = 2 ∧ cs = kc1 ++ kc2)) ∧ wr.ownsRow B 41 7 l n cs ∧ Fr B w wr) (fun _ s _ => 13 - (intOf s).toNat)
  case atStart => exact ⟨0, 0, [], rfl, .inl ⟨rfl, rfl, rfl⟩, World.ownsRow_nil w B 41 7, HF0.out⟩
  case round =>
    obtain ⟨j, n, cs, rfl, hj, hown, hfr⟩ := hrel
    have HF := hide hfr
    have HKr := hide (HK.out.on hfr.below hlt1 hlt2)
    have HRr : Hid (Row wr (some ⟨b, o, none⟩) kb) := by have h := HRw.out; exact h.below (by rw [HBB.out]; exact hfr.below)
    obtain ⟨a1, c1, rfl⟩ := ownsRow_shape hown
    have HO := hide hown
    clear hfr hown
    rcases hj with ⟨rfl, rfl, rfl⟩ | ⟨rfl, rfl, rfl⟩ | ⟨rfl, rfl, rfl⟩
    · have d0 := HKr.out.d0
      have hbd : bd < wr.heap.size := lt_of_block HKr.out.d
      have dA := (HKr.out.on (below_alloc wr (.cells #[.int .u8 0, .bool false, .int .i64 0, .string ⟨#[]⟩, .slice none 0 0, .slice none 0 0, .slice none 0 0] 41)) (lt_of_block HKr.out.l) hbd).d0
      have HBn := hide ((Box7.new wr (.int .u8 0) (.bool false) (.int .i64 0) (.string ⟨#[]⟩) (.slice none 0 0) (.slice none 0 0) (.slice none 0 0)).below (Below.refl _ _).drew)
      have HFn := hide ((HF.out.alloc (.cells #[.int .u8 0, .bool false, .int .i64 0, .string ⟨#[]⟩, .slice none 0 0, .slice none 0 0, .slice none 0 0] 41)).drew)
      have HOn := hide (owns_below HO.out (below_alloc wr (.cells #[.int .u8 0, .bool false, .int .i64 0, .string ⟨#[]⟩, .slice none 0 0, .slice none 0 0, .slice none 0 0] 41)).drew)
      have HFd := hide HF.out.drew
      have HOd := hide (owns_below HO.out (Below.refl _ _).drew)
      go_wp2
      go_region_law (first | (go_simp; go_at_call 19; refine (falls_at bd 0 2 2 0 false _ (by omega) (by omega) (by first | exact d0 | exact dA)).mono ?_; intro r' V1 hh; obtain ⟨rfl, rfl⟩ := hh) | (go_simp; go_at_call 22; refine (first_one _ _ _ (HRr.out.below (by first | exact (Below.refl _ _).drew | exact (below_alloc _ _).drew | exact ((Below.refl _ _).drew.alloc (Nat.le_refl _) _)))).mono ?_; intro r' V2 hh; obtain ⟨rfl, hb2⟩ := hh; obtain ⟨hcv, hfv⟩ := bcell hb2; have HB2 := hide hb2; clear hb2))
      all_goals clear hcv hfv d0 dA
      all_goals first
        | (have HBz := hide ((HBn.out.below HB2.out).set7 (.int .u8 4) (.bool false) (.int .i64 0) (.string ⟨#[97]⟩) (.slice none 0 0) (.slice none 0 0) (.slice none 0 0))
           have HFz := hide ((HFn.out.on HB2.out).grown (grown_set7 V2 wr.heap.size (.int .u8 4) (.bool false) (.int .i64 0) (.string ⟨#[97]⟩) (.slice none 0 0) (.slice none 0 0) (.slice none 0 0)) (fun x e => by cases e; exact HF.out.size))
           have HOz := hide (owns_of_block (owns_below HOn.out HB2.out) (fun x hx => (grown_set7 V2 wr.heap.size (.int .u8 4) (.bool false) (.int .i64 0) (.string ⟨#[97]⟩) (.slice none 0 0) (.slice none 0 0) (.slice none 0 0)).block x (World.ownsRow.lt (owns_below HOn.out HB2.out) x hx).2 (fun e => by cases e; have := (World.ownsRow.lt HO.out _ hx).2; omega)))
           generalize ((((((V2.setCell ⟨wr.heap.size, 0, none⟩ (.int .u8 4)).setCell ⟨wr.heap.size, 1, none⟩ (.bool false)).setCell ⟨wr.heap.size, 2, none⟩ (.int .i64 0)).setCell ⟨wr.heap.size, 3, none⟩ (.string ⟨#[97]⟩)).setCell ⟨wr.heap.size, 4, none⟩ (.slice none 0 0)).setCell ⟨wr.heap.size, 5, none⟩ (.slice none 0 0)).setCell ⟨wr.heap.size, 6, none⟩ (.slice none 0 0) = Z at *
           generalize wr.heap.size = bx at *)
        | (have HBz := hide (Box7.new V2 (.int .u8 4) (.bool false) (.int .i64 0) (.string ⟨#[97]⟩) (.slice none 0 0) (.slice none 0 0) (.slice none 0 0))
           have HFz := hide ((HFd.out.on HB2.out).alloc (.cells #[.int .u8 4, .bool false, .int .i64 0, .string ⟨#[97]⟩, .slice none 0 0, .slice none 0 0, .slice none 0 0] 41))
           have HOz := hide (owns_below (owns_below HOd.out HB2.out) (below_alloc V2 (.cells #[.int .u8 4, .bool false, .int .i64 0, .string ⟨#[97]⟩, .slice none 0 0, .slice none 0 0, .slice none 0 0] 41)))
           generalize V2.alloc (.cells #[.int .u8 4, .bool false, .int .i64 0, .string ⟨#[97]⟩, .slice none 0 0, .slice none 0 0, .slice none 0 0] 41) = Z at *
           generalize V2.heap.size = bx at *)
      all_goals
        clear HBn HFn HOn HFd HOd HB2 HO HF
        obtain ⟨z0, z1, z2, z3, z4, z5, z6⟩ := HBz.out.cells
        have HNw := hide (news7 Z (.int .u8 4) (.bool false) (.int .i64 0) (.string ⟨#[97]⟩) (.slice none 0 0) (.slice none 0 0) (.slice none 0 0))
        go_wp2_with (at_builtin; refine wpList_append_own _ (by rfl) (.tmp 35) (.tmp 37) 22 (by rfl) B 41 i0 _ 7 104 Try.underlying22 hi hz0 hz1 hz2 (by rfl) (by omega) (.slice a1 0 c1) 0 [] (by rfl) (owns_below HOz.out (below_alloc _ _)) ⟨Z.heap.size, 0, none⟩ 1 1 kc1 (by rfl) (by rfl) HNw.out (by decide) (by decide) (by decide) (by have := HFz.out.size; simp; omega) ?_; intro v' w1 hown1 hg1 _; obtain ⟨a3, c3, rfl⟩ := ownsRow_shape hown1; have HFe := hide ((HFz.out.alloc (.cells #[.int .u8 4, .bool false, .int .i64 0, .string ⟨#[97]⟩, .slice none 0 0, .slice none 0 0, .slice none 0 0] 41)).grown hg1 (fun x hx => (World.ownsRow.lt HOz.out x hx).1)); have HOe := hide hown1; clear hown1 hg1)
        go_roundw
        case rel => exact ⟨4, 1, kc1, rfl, .inr (.inl ⟨rfl, rfl, rfl⟩), HOe.out, HFe.out⟩
        case measure => simp [intOf]
    · have hc4 : ¬ (cap = 4) := by omega
      have d0 := HKr.out.d1
      have hbd : bd < wr.heap.size := lt_of_block HKr.out.d
      have dA := (HKr.out.on (below_alloc wr (.cells #[.int .u8 0, .bool false, .int .i64 0, .string ⟨#[]⟩, .slice none 0 0, .slice none 0 0, .slice none 0 0] 41)) (lt_of_block HKr.out.l) hbd).d1
      have HBn := hide ((Box7.new wr (.int .u8 0) (.bool false) (.int .i64 0) (.string ⟨#[]⟩) (.slice none 0 0) (.slice none 0 0) (.slice none 0 0)).below (Below.refl _ _).drew)
      have HFn := hide ((HF.out.alloc (.cells #[.int .u8 0, .bool false, .int .i64 0, .string ⟨#[]⟩, .slice none 0 0, .slice none 0 0, .slice none 0 0] 41)).drew)
      have HOn := hide (owns_below HO.out (below_alloc wr (.cells #[.int .u8 0, .bool false, .int .i64 0, .string ⟨#[]⟩, .slice none 0 0, .slice none 0 0, .slice none 0 0] 41)).drew)
      have HFd := hide HF.out.drew
      have HOd := hide (owns_below HO.out (Below.refl _ _).drew)
      go_wp2
      go_region_law (first | (go_simp; go_at_call 19; refine (falls_at bd 0 2 2 1 true _ (by omega) (by omega) (by first | exact d0 | exact dA)).mono ?_; intro r' V1 hh; obtain ⟨rfl, rfl⟩ := hh) | (go_simp; go_at_call 22; refine (first_two' (cap - 4) b (o + 4) _ ((HRr.out.drop 4).below (by first | exact (Below.refl _ _).drew | exact (below_alloc _ _).drew | exact ((Below.refl _ _).drew.alloc (Nat.le_refl _) _)))).mono ?_; intro r' V2 hh; obtain ⟨rfl, hb2⟩ := hh; obtain ⟨hcv, hfv⟩ := bcell hb2; have HB2 := hide hb2; clear hb2))
      all_goals clear hcv hfv d0 dA
      all_goals first
        | (have HBz := hide ((HBn.out.below HB2.out).set7 (.int .u8 3) (.bool false) (.int .i64 1) (.string ⟨#[]⟩) (.slice none 0 0) (.slice none 0 0) (.slice none 0 0))
           have HFz := hide ((HFn.out.on HB2.out).grown (grown_set7 V2 wr.heap.size (.int .u8 3) (.bool false) (.int .i64 1) (.string ⟨#[]⟩) (.slice none 0 0) (.slice none 0 0) (.slice none 0 0)) (fun x e => by cases e; exact HF.out.size))
           have HOz := hide (owns_of_block (owns_below HOn.out HB2.out) (fun x hx => (grown_set7 V2 wr.heap.size (.int .u8 3) (.bool false) (.int .i64 1) (.string ⟨#[]⟩) (.slice none 0 0) (.slice none 0 0) (.slice none 0 0)).block x (World.ownsRow.lt (owns_below HOn.out HB2.out) x hx).2 (fun e => by cases e; have := (World.ownsRow.lt HO.out _ hx).2; omega)))
           generalize ((((((V2.setCell ⟨wr.heap.size, 0, none⟩ (.int .u8 3)).setCell ⟨wr.heap.size, 1, none⟩ (.bool false)).setCell ⟨wr.heap.size, 2, none⟩ (.int .i64 1)).setCell ⟨wr.heap.size, 3, none⟩ (.string ⟨#[]⟩)).setCell ⟨wr.heap.size, 4, none⟩ (.slice none 0 0)).setCell ⟨wr.heap.size, 5, none⟩ (.slice none 0 0)).setCell ⟨wr.heap.size, 6, none⟩ (.slice none 0 0) = Z at *
           generalize wr.heap.size = bx at *)
        | (have HBz := hide (Box7.new V2 (.int .u8 3) (.bool false) (.int .i64 1) (.string ⟨#[]⟩) (.slice none 0 0) (.slice none 0 0) (.slice none 0 0))
           have HFz := hide ((HFd.out.on HB2.out).alloc (.cells #[.int .u8 3, .bool false, .int .i64 1, .string ⟨#[]⟩, .slice none 0 0, .slice none 0 0, .slice none 0 0] 41))
           have HOz := hide (owns_below (owns_below HOd.out HB2.out) (below_alloc V2 (.cells #[.int .u8 3, .bool false, .int .i64 1, .string ⟨#[]⟩, .slice none 0 0, .slice none 0 0, .slice none 0 0] 41)))
           generalize V2.alloc (.cells #[.int .u8 3, .bool false, .int .i64 1, .string ⟨#[]⟩, .slice none 0 0, .slice none 0 0, .slice none 0 0] 41) = Z at *
           generalize V2.heap.size = bx at *)
      all_goals
        clear HBn HFn HOn HFd HOd HB2 HO HF
        obtain ⟨z0, z1, z2, z3, z4, z5, z6⟩ := HBz.out.cells
        have HNw := hide (news7 Z (.int .u8 3) (.bool false) (.int .i64 1) (.string ⟨#[]⟩) (.slice none 0 0) (.slice none 0 0) (.slice none 0 0))
        go_wp2_with (at_builtin; refine wpList_append_own _ (by rfl) (.tmp 35) (.tmp 37) 22 (by rfl) B 41 i0 _ 7 104 Try.underlying22 hi hz0 hz1 hz2 (by rfl) (by omega) (.slice a1 1 c1) 1 kc1 (by rfl) (owns_below HOz.out (below_alloc _ _)) ⟨Z.heap.size, 0, none⟩ 1 1 kc2 (by rfl) (by rfl) HNw.out (by decide) (by decide) (by decide) (by have := HFz.out.size; simp; omega) ?_; intro v' w1 hown1 hg1 _; obtain ⟨a3, c3, rfl⟩ := ownsRow_shape hown1; have HFe := hide ((HFz.out.alloc (.cells #[.int .u8 3, .bool false, .int .i64 1, .string ⟨#[]⟩, .slice none 0 0, .slice none 0 0, .slice none 0 0] 41)).grown hg1 (fun x hx => (World.ownsRow.lt HOz.out x hx).1)); have HOe := hide hown1; clear hown1 hg1)
        go_roundw
        case rel => exact ⟨13, 2, kc1 ++ kc2, rfl, .inr (.inr ⟨rfl, rfl, rfl⟩), HOe.out, HFe.out⟩
        case measure => simp [intOf]
    · go_wp2
      go_ret3
      exact ⟨.slice a1 2 c1, rfl, HO.out, HF.out.below⟩
end Go.Proofs.Ytegoeaofjnpehaa
