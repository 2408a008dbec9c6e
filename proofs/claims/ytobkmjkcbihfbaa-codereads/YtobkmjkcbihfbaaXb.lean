/- Contracts of the document's reader: taking bytes. -/
import Derived.Test.YtobkmjkcbihfbaaXa
namespace Go.Proofs.Ytobkmjkcbihfbaa
open Go.RowKit
set_option linter.unusedVariables false

/-- what taking gives, of the document's reader. -/
def XTook (w : World) (p : Nat) (a : Option Addr) (c : Nat) (bs : List Int) (i e : Nat) (n : Int) (r : Ending) (w' : World) : Prop :=
  ∃ (a' : Option Addr) (m c' : Nat), r = .returned (.slice a' m c') ∧ (tk bs i e n).2.2.length = m ∧ (a' = none → m = 0 ∧ c' = 0) ∧ Row w' a' (tk bs i e n).2.2 ∧ Own w' (.slice a' m c') (tk bs i e n).2.2 ∧ Xd w' p a c bs (tk bs i e n).1 (tk bs i e n).2.1 ∧ w.grownBy w' (some p)
theorem grown_two {w w1 w2 : World} {p : Nat} (h : w.grownBy w1 none) (h2 : w1.grownBy w2 (some p)) : w.grownBy w2 (some p) :=
  grown_trans ⟨h.os, h.tape, h.output, h.size, fun k hk _ => h.block k hk (by simp)⟩ h2

theorem Row.grown' {w w' : World} {a : Option Addr} {zs : List Int} (h : Row w a zs) (hg : w.drew.grownBy w' (Value.ownBlock (.slice none 0 0))) : Row w' a zs := by
  rcases h with h | ⟨b, off, rfl, hlt, hc⟩
  · exact .inl h
  · exact .inr ⟨b, off, rfl, Nat.lt_of_lt_of_le hlt hg.size, fun j hj => hg.cell (hc j hj) (by simp [Value.ownBlock])⟩

set_option maxHeartbeats 1600000 in
set_option maxRecDepth 1000000 in
theorem xraw_any (p : Nat) (a : Option Addr) (c : Nat) (bs : List Int) (i e : Nat) (n : Int) (w : World) (hr : Xd w p a c bs i e) (h1 : -9223372036854775808 ≤ n) (h2 : n ≤ 9223372036854775807) :
    Calls Try.prog 73 #[.pointer (some ⟨p, 0, none⟩), .int .i64 n] w fun r w' => XTook w p a c bs i e n r w' := by
  obtain ⟨i0, hi, hz0, hz1, hz2⟩ := info_parts Try.info5
  have HR := hide hr
  have hle := hr.le
  have hsm := hr.small
  have k0 := hr.c0
  have k1 := hr.c1
  have k2 := hr.c2
  clear hr
  by_cases he : e = 0
  · subst he
    by_cases hn : n < 0
    · have HT : Hid (tk bs i 0 n = (i, 1, [])) := by rw [Hid, tk_neg _ _ _ _ hn]; rfl
      go_enter Try.func73, Try.ntmps73
      go_wp2_with fail
      refine (xfail_any p a c bs i 1 _ HR.out (by omega) (by omega)).mono ?_
      rintro r w1 ⟨rfl, hr1, hg1⟩
      have HR1 := hide hr1
      have HG1 := hide hg1
      clear hr1 hg1
      go_wp2
      go_ret
      exact ⟨none, 0, 0, rfl, by rw [HT.out]; rfl, fun _ => ⟨rfl, rfl⟩, .inl (by rw [HT.out]), by rw [HT.out]; exact Own.nil _, by rw [HT.out]; exact HR1.out, HG1.out⟩
    · by_cases hlt : ((bs.length - i : Nat) : Int) < n
      · have HT : Hid (tk bs i 0 n = (i, 20, [])) := by rw [Hid, tk_short _ _ _ _ hn (by omega)]; rfl
        have hd : (bs.length : Int) - (i : Int) < n := by omega
        generalize hN : bs.length = N at *
        clear hN
        go_enter Try.func73, Try.ntmps73
        go_wp2
        go_quiet (fail)
        have HR0 := hide (HR.out.drewN nq)
        have HG0 := hide (grown_drewN (grown_refl w (some p)) nq)
        have k10 := HR0.out.c1
        clear k0 k1 k2 HR
        generalize w.drewN nq = W at *
        go_wp2_with fail
        refine (xfail_any p a c bs i 20 _ HR0.out (by omega) (by omega)).mono ?_
        rintro r w1 ⟨rfl, hr1, hg1⟩
        have HR1 := hide hr1
        have HG1 := hide (grown_trans HG0.out hg1)
        clear hr1 hg1
        go_wp2
        go_ret
        exact ⟨none, 0, 0, rfl, by rw [HT.out]; rfl, fun _ => ⟨rfl, rfl⟩, .inl (by rw [HT.out]), by rw [HT.out]; exact Own.nil _, by rw [HT.out]; exact HR1.out, HG1.out⟩
      · obtain ⟨m, rfl⟩ : ∃ m : Nat, n = (m : Int) := ⟨n.toNat, by omega⟩
        have HT := hide (tk_ok bs i m (by omega))
        have HL : Hid (((bs.drop i).take m).length = m) := by rw [Hid, List.length_take, List.length_drop]; omega
        have hd : ¬ (bs.length : Int) - (i : Int) < (m : Int) := by omega
        have him : i + m ≤ bs.length := by omega
        have hcap := HR.out.cap
        have hcaps := HR.out.caps
        have HBy := hide (HR.out.byts)
        generalize hN : bs.length = N at *
        have HN := hide hN
        clear hN
        go_enter Try.func73, Try.ntmps73
        go_wp2
        go_quiet (fail)
        have HR0 := hide (HR.out.drewN nq)
        have HG0 := hide (grown_drewN (grown_refl w (some p)) nq)
        have k10 := HR0.out.c1
        have k00 := HR0.out.c0
        rw [HN.out] at k00
        clear k0 k1 k2 HR
        generalize w.drewN nq = W at *
        have hsum : (i : Int) + (m : Int) = ((i + m : Nat) : Int) := by omega
        have hwrap : IntKind.i64.wrap ((i : Int) + (m : Int)) = ((i + m : Nat) : Int) := by simp [IntKind.wrap, IntKind.bits, IntKind.signed]; omega
        have hsi : i + m - i = m := by omega
        generalize hs : i + m = s at *
        have HSm := hide hs
        have b1 : (0 : Int) ≤ (i : Int) := by omega
        have b2 : (i : Int) ≤ (s : Int) := by omega
        have b3 : (s : Int) ≤ (c : Int) := by omega
        have HRow : Hid (Row W.drew (if c = i then a else Option.map (fun x => x.add i) a) ((bs.drop i).take m)) := HR0.out.row.cutc i m c HR0.out.cap (by have := HSm.out; have := HN.out; omega)
        have HSrc : Hid (Src Try.prog 1 27 (.slice (if c = i then a else Option.map (fun x => x.add i) a) (s - i) (c - i)) (s - i) (((bs.drop i).take m).map (Value.int .u8)) W.drew) := by
          refine src_row _ _ _ _ _ (by rw [HL.out]; exact hsi.symm) (fun h => ?_) HRow.out
          have ha : a = none := by
            split at h
            · exact h
            · simpa using h
          have := HR0.out.bare ha
          have h3 := HN.out
          rw [this.1] at h3
          simp at h3
          omega
        have HBd : Hid (([] : List Int).length + (s - i) ≤ 140737488355328) := by rw [Hid, List.length_nil]; omega
        have HF1 := hide (HR0.out.f 1)
        clear hs hsum hsi
        go_wp2
        go_region_held3 (fun W' => W'.cell? ⟨p, 0, none⟩ = some (.slice a N c) ∧ W'.cell? ⟨p, 1, none⟩ = some (.int .i64 (i : Int))) ((refine ⟨?_, ?_⟩ <;> assumption)) ((first | (refine step_append_src (by rfl) (.tmp 37) (.tmp 52) 27 27 (by rfl) i0 Try.underlying27 hi hz0 hz1 hz2 (.slice none 0 0) [] (by rfl) (Own.nil _) _ (s - i) ((bs.drop i).take m) (by rfl) HSrc.out HBd.out ?_; intro v' w1 hown hg hf; obtain ⟨x3, n3, c3, rfl, HN3⟩ := hown.shape2; have HF3 := hide hf; have HO1 := hide hown; have HG1 := hide (grown_two hg (grown_refl _ (some p))); have HX1 := hide (HR0.out.of (w' := w1) (hg.block p HR0.out.lt (by simp [Value.ownBlock])) (HR0.out.row.grown' hg)); have k11 := HX1.out.c1; have k12 := HX1.out.c0; have f11 := HX1.out.f 1; rw [HN.out] at k12; clear hown hg hf)))
        generalize (if c = i then a else Option.map (fun x => x.add i) a) = AA at *
        go_wp2
        go_ret
        have hap : ∀ ad, x3 = some ad → ad.block ≠ p := by
          rintro ad rfl e
          rcases HF3.out ad.block rfl with h | h
          · cases h
          · have := HR0.out.lt
            have h5 : W.heap.size ≤ ad.block := h
            omega
        obtain ⟨x4, c4, e4, -, -, hbare, hrow, -⟩ := HO1.out.shape
        obtain ⟨rfl, -, rfl⟩ : x3 = x4 ∧ n3 = _ ∧ c3 = c4 := by simpa using e4
        refine ⟨x3, n3, c3, rfl, ?_, fun h => ?_, ?_, ?_, ?_, ?_⟩
        · rw [HT.out, HN3.out, List.nil_append]
        · have := hbare h
          rw [← HN3.out] at this
          exact this
        · rw [HT.out]
          rw [List.nil_append] at hrow
          exact hrow.other (grown_setCell _ _ _ _) hap
        · rw [HT.out]
          have h5 := HO1.out
          rw [List.nil_append] at h5
          refine h5.of_block fun k hk => Below.heap_setCell _ _ _ _ (fun e5 => ?_)
          subst e5
          cases x3 with
          | none => cases hk
          | some ad => exact hap ad rfl (by simpa [Value.ownBlock] using hk)
        · rw [HT.out]
          have h3 := HX1.out.setAt s (by have := HN.out; omega)
          rw [← HSm.out] at h3 ⊢
          exact h3
        · exact grown_trans HG0.out (grown_trans (grown_trans (grown_below (Below.refl _ _).drew) HG1.out) (grown_setCell _ _ _ _))
  · have hne : ((e : Int) != 0) = true := by simp; omega
    have HT := hide (tk_err bs i e n he)
    go_enter Try.func73, Try.ntmps73
    go_wp2
    go_ret
    exact ⟨none, 0, 0, rfl, by rw [HT.out]; rfl, fun _ => ⟨rfl, rfl⟩, .inl (by rw [HT.out]), by rw [HT.out]; exact Own.nil _, by rw [HT.out]; exact HR.out, grown_refl _ _⟩
end Go.Proofs.Ytobkmjkcbihfbaa
