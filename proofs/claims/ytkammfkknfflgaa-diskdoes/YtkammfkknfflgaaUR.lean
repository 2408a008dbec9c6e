/- The walk of DiskDoes. -/
import Derived.Test.YtkammfkknfflgaaUO
import Derived.Test.YtkammfkknfflgaaMV
import Derived.Test.YtkammfkknfflgaaDU
namespace Go.Proofs.Ytkammfkknfflgaa
open Go.RowKit
set_option linter.unusedVariables false
theorem below_tr {a b c : World} (h : Below a.heap.size a b) (k : Below b.heap.size b c) : Below a.heap.size a c := ⟨k.os.trans h.os, k.tape.trans h.tape, k.output.trans h.output, Nat.le_trans h.size k.size, fun i hi => (k.block i (Nat.lt_of_lt_of_le hi h.size)).trans (h.block i hi)⟩
theorem grow_mv {w w' : World} {g : Nat} (h : w.grownBy w' (some g)) : Mv (· = g) w w' := ⟨h.os, h.tape, h.output, h.size, fun k hk hne => h.block k hk (fun e => hne (by cases e; rfl))⟩
theorem row_of {w : World} {g l cc : Nat} {zs : List Int} (h : Own w (.slice (some ⟨g, 0, none⟩) l cc) zs) : Row w (some ⟨g, 0, none⟩) zs := by
  obtain ⟨a, c, e, -, -, -, hr, -⟩ := h.shape
  have e1 : some (⟨g, 0, none⟩ : Addr) = a := by injection e
  rw [e1]
  exact hr
theorem pr_new {w w7 : World} {p q r : Nat} {S : DS} {O O2 : Nat → Prop} (hd : DkAt w7 p q S O) (hr : RdAt w7 r S O2) (hdr : ∀ k, O k → ¬ O2 k) (hlo : (∀ k, O k → w.heap.size ≤ k) ∧ ∀ k, O2 k → w.heap.size ≤ k) (hb : Below w.heap.size w w7) :
    Pr w.heap.size w ((w7.alloc (.cells #[.slice none 0 0, .slice none 0 0, .slice none 0 0, .slice none 0 0, .slice none 0 0, .slice none 0 0, .slice none 0 0, .slice none 0 0, .slice none 0 0, .slice none 0 0, .slice none 0 0, .slice none 0 0, .slice none 0 0, .slice none 0 0, .slice none 0 0, .slice none 0 0, .slice none 0 0, .slice none 0 0, .slice none 0 0, .slice none 0 0, .slice none 0 0, .slice none 0 0, .slice none 0 0] 59)).alloc (.cells #[.pointer (some ⟨p, 0, none⟩), .pointer (some ⟨r, 0, none⟩), .pointer (some ⟨w7.heap.size, 0, none⟩)] 61)) (w7.heap.size + 1) p q r w7.heap.size 0 0 S S O O2 (· = w7.heap.size) := by
  have b1 := below_alloc w7 (.cells #[.slice none 0 0, .slice none 0 0, .slice none 0 0, .slice none 0 0, .slice none 0 0, .slice none 0 0, .slice none 0 0, .slice none 0 0, .slice none 0 0, .slice none 0 0, .slice none 0 0, .slice none 0 0, .slice none 0 0, .slice none 0 0, .slice none 0 0, .slice none 0 0, .slice none 0 0, .slice none 0 0, .slice none 0 0, .slice none 0 0, .slice none 0 0, .slice none 0 0, .slice none 0 0] 59)
  have b2 := below_alloc (w7.alloc (.cells #[.slice none 0 0, .slice none 0 0, .slice none 0 0, .slice none 0 0, .slice none 0 0, .slice none 0 0, .slice none 0 0, .slice none 0 0, .slice none 0 0, .slice none 0 0, .slice none 0 0, .slice none 0 0, .slice none 0 0, .slice none 0 0, .slice none 0 0, .slice none 0 0, .slice none 0 0, .slice none 0 0, .slice none 0 0, .slice none 0 0, .slice none 0 0, .slice none 0 0, .slice none 0 0] 59)) (.cells #[.pointer (some ⟨p, 0, none⟩), .pointer (some ⟨r, 0, none⟩), .pointer (some ⟨w7.heap.size, 0, none⟩)] 61)
  have hsz := hb.size
  refine ⟨?_, (hd.below b1).below b2, (hr.below b1).below b2, (bk_new w7).other (O1 := fun _ => False) ⟨b2.os, b2.tape, b2.output, b2.size, fun k hk _ => b2.block k hk⟩ (fun _ _ e => e), hdr, fun k e1 e2 => by have := hd.lt k e1; omega, fun k e1 e2 => by have := hr.lt k e1; omega, fun e => by have := hd.lt _ e; omega, fun e => by have := hr.lt _ e; omega, fun e => by omega, ⟨by omega, hlo.1, hlo.2, fun k e => by omega⟩, ?_⟩
  · have := heap_alloc_new (w7.alloc (.cells #[.slice none 0 0, .slice none 0 0, .slice none 0 0, .slice none 0 0, .slice none 0 0, .slice none 0 0, .slice none 0 0, .slice none 0 0, .slice none 0 0, .slice none 0 0, .slice none 0 0, .slice none 0 0, .slice none 0 0, .slice none 0 0, .slice none 0 0, .slice none 0 0, .slice none 0 0, .slice none 0 0, .slice none 0 0, .slice none 0 0, .slice none 0 0, .slice none 0 0, .slice none 0 0] 59)) (.cells #[.pointer (some ⟨p, 0, none⟩), .pointer (some ⟨r, 0, none⟩), .pointer (some ⟨w7.heap.size, 0, none⟩)] 61)
    rwa [size_al] at this
  · exact below_tr (below_tr hb b1) b2
/-- what both News answer. -/
theorem news_ok (pg : Nat) (h1 : 1 ≤ pg) (h2 : pg ≤ 16384) : ∃ S, Bd S (8 * pg) 0 ∧
      (∀ W, Calls Try.prog 6 #[.int .i64 (pg : Int)] W fun e w' => ∃ O p q, e = .returned (.tuple #[.pointer (some ⟨p, 0, none⟩), .int .u16 0]) ∧ DkAt w' p q S O ∧ (∀ k, O k → W.heap.size ≤ k) ∧ Below W.heap.size W w') ∧
      (∀ W, Calls Try.prog 7 #[.int .i64 (pg : Int)] W fun e w' => ∃ O r, e = .returned (.tuple #[.pointer (some ⟨r, 0, none⟩), .int .u16 0]) ∧ RdAt w' r S O ∧ (∀ k, O k → W.heap.size ≤ k) ∧ Below W.heap.size W w') := by
  refine ⟨DS.new (8 * pg), ⟨by simp [DS.new], by omega, by simp [DS.new], by simp [DS.new], by simp [DS.new], by simp [DS.new]⟩, fun W => ?_, fun W => ?_⟩
  · refine (new_at pg (pg : Int) W rfl h1 h2).mono ?_
    rintro e w' ⟨O, p, q, rfl, hd, hf⟩
    exact ⟨O, p, q, rfl, hd, hf.own, hf.below⟩
  · refine (rnew_any pg W h1 h2).mono ?_
    rintro e w' ⟨p, f, vl, Ls, rfl, hd, hf, hbl⟩
    rw [new_of] at hd
    exact ⟨_, p, rfl, ⟨vl, Ls, _, _, f, hd, fun k => Iff.rfl⟩, hf, hbl⟩
set_option maxHeartbeats 6400000 in
set_option maxRecDepth 1000000 in
theorem walk (P : Int) (hP : -9223372036854775808 ≤ P ∧ P ≤ 9223372036854775807) (a1 : Option Addr) (N c1 : Nat) (xs : List Ac) (w : World) (ha : Acs w a1 N c1 xs) (hs : Sza xs) :
    Calls Try.prog 3 #[.int .i64 P, .slice a1 N c1] w fun e w' => e = .returned (.bool true) ∧ Below w.heap.size w w' := by
  have HA := hide ha
  have HSz := hide hs
  have hNN : N ≤ 140737488355328 := by have := hs.1; rwa [ha.len] at this
  clear ha hs
  go_enter Try.func3, Try.ntmps3
  go_wp2_with fail
  refine (known_any w).mono ?_
  rintro e w1 ⟨rfl, hb1⟩
  have HB1 := hide hb1
  clear hb1
  by_cases q1 : 100 < P
  · by_cases q2 : P ≤ 16384
    · by_cases q3 : 3 < N
      · have q4 : (3 : Int) < (N : Int) := by omega
        go_wp2
        go_ret
        exact ⟨rfl, HB1.out⟩
      · have q4 : ¬ (3 : Int) < (N : Int) := by omega
        have hok : 1 ≤ P ∧ P ≤ 16384 := by omega
        obtain ⟨pg, rfl⟩ := Int.eq_ofNat_of_zero_le (show 0 ≤ P by omega)
        have h1 : 1 ≤ pg := by omega
        have h2 : pg ≤ 16384 := by omega
        obtain ⟨S, hbd, hdl, hrl⟩ := news_ok pg h1 h2
        have HDL := hide hdl
        have HRL := hide hrl
        have HBD := hide hbd
        clear hdl hrl hbd hok
        go_wp2_with fail
        refine (HDL.out w1).mono ?_
        rintro e w3 ⟨O, p, q, rfl, hd3, ho3, hb3⟩
        have HD3 := hide hd3
        have HOo := hide ho3
        have HB3 := hide (below_tr HB1.out hb3)
        clear hd3 ho3 hb3
        go_wp2_with fail
        refine (HRL.out w3).mono ?_
        rintro e w6 ⟨O2, r, rfl, hr4, ho4, hb4⟩
        have HR6 := hide hr4
        have HOr := hide ho4
        have HD6 := hide (HD3.out.below hb4)
        have HB6 := hide (below_tr HB3.out hb4)
        have HDr : Hid (∀ k, O k → ¬ O2 k) := hide (fun k e1 e2 => by have := HD3.out.lt k e1; have := HOr.out k e2; omega)
        have HLo : Hid ((∀ k, O k → w.heap.size ≤ k) ∧ ∀ k, O2 k → w.heap.size ≤ k) := hide ⟨fun k e => Nat.le_trans HB1.out.size (HOo.out k e), fun k e => Nat.le_trans HB3.out.size (HOr.out k e)⟩
        clear hr4 ho4 hb4
        have HMU := hide (much_any a1 N c1 xs w6 (HA.out.below HB6.out) HSz.out pg (by omega))
        go_wp2_with fail
        refine HMU.out.mono ?_
        rintro e w7 ⟨hmo, hb7⟩
        have HB7 := hide (below_tr HB6.out hb7)
        have HD7 := hide (HD6.out.below hb7)
        have HR7 := hide (HR6.out.below hb7)
        clear hb7
        rcases hmo with rfl | ⟨rfl, hxl, hxs⟩
        · go_wp2
          go_ret
          exact ⟨rfl, HB7.out⟩
        · have HPY := hide (plays_any a1 N c1 xs w _ (w7.heap.size + 1) p q r w7.heap.size (8 * pg) ⟨S, O, O2, _, 0, 0, pr_new HD7.out HR7.out HDr.out HLo.out HB7.out, HBD.out, by omega, by omega⟩ HA.out (by have h3 := HA.out.len; omega) hxs)
          clear hxs hxl
          go_wp2_with fail
          refine HPY.out.mono ?_
          rintro e w12 ⟨rfl, hb12⟩
          have HB12 := hide hb12
          clear hb12
          go_wp2
          go_ret
          exact ⟨rfl, HB12.out⟩
    · have q5 : 16384 < P := by omega
      have hbad : P < 1 ∨ 16384 < P := .inr q5
      have HDN := hide (new_no P w1 hbad)
      have HRN := hide (fun W => rnew_no P W hbad)
      clear hbad
      go_wp2_with fail
      refine HDN.out.mono ?_
      rintro e w3 ⟨rfl, hb3⟩
      have HB3 := hide (below_tr HB1.out hb3)
      clear hb3
      go_wp2_with fail
      refine (HRN.out w3).mono ?_
      rintro e w4 ⟨rfl, hw4⟩
      cases hw4
      go_wp2
      go_ret
      exact ⟨rfl, HB3.out⟩
  · by_cases hok : 1 ≤ P
    · have hok : 1 ≤ P ∧ P ≤ 16384 := by omega
      obtain ⟨pg, rfl⟩ := Int.eq_ofNat_of_zero_le (show 0 ≤ P by omega)
      have h1 : 1 ≤ pg := by omega
      have h2 : pg ≤ 16384 := by omega
      obtain ⟨S, hbd, hdl, hrl⟩ := news_ok pg h1 h2
      have HDL := hide hdl
      have HRL := hide hrl
      have HBD := hide hbd
      clear hdl hrl hbd hok
      go_wp2_with fail
      refine (HDL.out w1).mono ?_
      rintro e w3 ⟨O, p, q, rfl, hd3, ho3, hb3⟩
      have HD3 := hide hd3
      have HOo := hide ho3
      have HB3 := hide (below_tr HB1.out hb3)
      clear hd3 ho3 hb3
      go_wp2_with fail
      refine (HRL.out w3).mono ?_
      rintro e w6 ⟨O2, r, rfl, hr4, ho4, hb4⟩
      have HR6 := hide hr4
      have HOr := hide ho4
      have HD6 := hide (HD3.out.below hb4)
      have HB6 := hide (below_tr HB3.out hb4)
      have HDr : Hid (∀ k, O k → ¬ O2 k) := hide (fun k e1 e2 => by have := HD3.out.lt k e1; have := HOr.out k e2; omega)
      have HLo : Hid ((∀ k, O k → w.heap.size ≤ k) ∧ ∀ k, O2 k → w.heap.size ≤ k) := hide ⟨fun k e => Nat.le_trans HB1.out.size (HOo.out k e), fun k e => Nat.le_trans HB3.out.size (HOr.out k e)⟩
      clear hr4 ho4 hb4
      have HMU := hide (much_any a1 N c1 xs w6 (HA.out.below HB6.out) HSz.out pg (by omega))
      go_wp2_with fail
      refine HMU.out.mono ?_
      rintro e w7 ⟨hmo, hb7⟩
      have HB7 := hide (below_tr HB6.out hb7)
      have HD7 := hide (HD6.out.below hb7)
      have HR7 := hide (HR6.out.below hb7)
      clear hb7
      rcases hmo with rfl | ⟨rfl, hxl, hxs⟩
      · go_wp2
        go_ret
        exact ⟨rfl, HB7.out⟩
      · have HPY := hide (plays_any a1 N c1 xs w _ (w7.heap.size + 1) p q r w7.heap.size (8 * pg) ⟨S, O, O2, _, 0, 0, pr_new HD7.out HR7.out HDr.out HLo.out HB7.out, HBD.out, by omega, by omega⟩ HA.out (by have h3 := HA.out.len; omega) hxs)
        clear hxs hxl
        go_wp2_with fail
        refine HPY.out.mono ?_
        rintro e w12 ⟨rfl, hb12⟩
        have HB12 := hide hb12
        clear hb12
        go_wp2
        go_ret
        exact ⟨rfl, HB12.out⟩
    · have hbad : P < 1 ∨ 16384 < P := by omega
      have HDN := hide (new_no P w1 hbad)
      have HRN := hide (fun W => rnew_no P W hbad)
      clear hbad
      go_wp2_with fail
      refine HDN.out.mono ?_
      rintro e w3 ⟨rfl, hb3⟩
      have HB3 := hide (below_tr HB1.out hb3)
      clear hb3
      go_wp2_with fail
      refine (HRN.out w3).mono ?_
      rintro e w4 ⟨rfl, hw4⟩
      cases hw4
      go_wp2
      go_ret
      exact ⟨rfl, HB3.out⟩
end Go.Proofs.Ytkammfkknfflgaa
