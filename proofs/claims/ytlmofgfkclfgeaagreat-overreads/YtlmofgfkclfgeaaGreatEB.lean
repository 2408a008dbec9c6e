/- May an operation be done? The document's own disk. -/
import Derived.Test.YtlmofgfkclfgeaaGreatXA
import Derived.Test.YtlmofgfkclfgeaaGreatDP
namespace Go.Proofs.YtlmofgfkclfgeaaGreat
open Go.RowKit Go.Maps
set_option linter.unusedVariables false
set_option linter.unusedSimpArgs false
variable {w w' : World} {p f : Nat} {vl vc : Value} {Ls Cs : List Value} {S S' : DS}

theorem Mv.mono' {O O' : Nat → Prop} (h : Mv O w w') (ho : ∀ k, O k → O' k) : Mv O' w w' := ⟨h.os, h.tape, h.output, h.size, fun k hk hn => h.block k hk fun x => hn (ho k x)⟩
theorem sets_nil (w : World) (p : Nat) : sets w p [] = w := rfl
/-- cells of the struct are turned, then cells of the faults. -/
theorem RD.turned (h : RD w p vl Ls vc Cs f S) (lp lf : List (Nat × Value)) (h1 : S'.ls = S.ls) (h2 : S'.ws = S.ws) (hg : S'.Good) (hp : lp.foldl (fun C x => C.setIfInBounds x.1 x.2) (rcells vl vc f S) = rcells vl vc f S') (hf : lf.foldl (fun C x => C.setIfInBounds x.1 x.2) (fcells S) = fcells S') :
    RD (sets (sets w p lp) f lf) p vl Ls vc Cs f S' ∧ Mv (fun k => k = p ∨ k = f) w (sets (sets w p lp) f lf) := by
  have hm : Mv (fun k => k = p ∨ k = f) w (sets (sets w p lp) f lf) := ((sets_mv p lp w).mono' fun k hk => .inl hk).trans' ((sets_mv f lf _).mono' fun k hk => .inr hk)
  refine ⟨h.fields h1 h2 hg ?_ ?_ hm, hm⟩
  · rw [sets_other f p h.pf, sets_blk p 79 lp w _ h.blk, hp]
  · rw [sets_blk f 3 lf _ _ ((sets_other p f (fun e => h.pf e.symm) lp w).trans h.fau), hf]
theorem bft (b : Bool) : b = false ∨ b = true := by cases b <;> simp
theorem tick_ft (l : Int) : tick false l = (false, false, l) := rfl
set_option maxHeartbeats 3200000 in
set_option maxRecDepth 1000000 in
theorem begins1 (h : RD w p vl Ls vc Cs f S) (hn : S.n1 + 1 ≤ 1000000) :
    Calls Tryz.prog 70 #[.pointer (some ⟨p, 0, none⟩), .int .i64 1] w fun e w' => e = .returned (.int .u16 (S.er S.s1 S.l1 : Int)) ∧ RD w' p vl Ls vc Cs f (S.be S.op1) ∧ Mv (fun k => k = p ∨ k = f) w w' := by
  have hls : (S.be S.op1).ls = S.ls := by unfold DS.be; split; rfl; split <;> rfl
  have hws : (S.be S.op1).ws = S.ws := by unfold DS.be; split; rfl; split <;> rfl
  have hgd : (S.be S.op1).Good := DS.be_good h.good (h.good.op1 hn)
  have hn0 := h.good.n1.1
  have ht := h.good.t
  have hf := h.good.f1
  have c2 := h.c 2 (.bool S.dk) rfl
  have c3 := h.c 3 (.int .i64 (ft S.ts S.tl)) rfl
  have c4 := h.c 4 (.slice (some ⟨f, 0, none⟩) 4 4) rfl
  have c5 := h.c 5 (.int .i64 S.n1) rfl
  have g1 := h.fc 1 (.int .i64 (ft S.s1 S.l1)) rfl
  have z2 := h.fz 2
  have z3 := h.fz 3
  have z5 := h.fz 5
  have y1 := h.ff 1
  have hpf := h.pf
  have hfp : f ≠ p := fun e => hpf e.symm
  rcases bft S.dk with hdk | hdk
  · rcases bft S.ts with hts | hts
    · rcases bft S.s1 with hs | hs
      · have HF := hide (h.turned (S' := S.be S.op1) [(5, .int .i64 (S.n1 + 1))] [] hls hws hgd (by simp [rcells, DS.be, DS.op1, DS.tr, DS.out, tick, ft, hdk, hts, hs]) (by simp [fcells, DS.be, DS.op1, DS.tr, DS.out, tick, ft, hdk, hts, hs]))
        have HEr : Hid (S.er S.s1 S.l1 = 0) := by simp [Hid, DS.er, tick, hdk, hts, hs]
        rw [HEr.out]
        rw [show ft S.ts S.tl = -1 by simp [ft, hts]] at c3
        rw [hdk] at c2
        rw [show ft S.s1 S.l1 = -1 by simp [ft, hs]] at g1
        clear hls hws hgd h
        go_enter Tryz.func70, Tryz.ntmps70
        go_wp2
        go_ret
        exact ⟨rfl, HF.out⟩
      · by_cases hl : S.l1 = 0
        · have HF := hide (h.turned (S' := S.be S.op1) [(5, .int .i64 (S.n1 + 1))] [(1, .int .i64 (-1))] hls hws hgd (by simp [rcells, DS.be, DS.op1, DS.tr, DS.out, tick, ft, hdk, hts, hs, hl]) (by simp [fcells, DS.be, DS.op1, DS.tr, DS.out, tick, ft, hdk, hts, hs, hl]))
          have HEr : Hid (S.er S.s1 S.l1 = 6) := by simp [Hid, DS.er, tick, hdk, hts, hs, hl]
          rw [HEr.out]
          rw [show ft S.ts S.tl = -1 by simp [ft, hts]] at c3
          rw [hdk] at c2
          rw [show ft S.s1 S.l1 = 0 by simp [ft, hs, hl]] at g1
          clear hls hws hgd h
          go_enter Tryz.func70, Tryz.ntmps70
          go_wp2
          go_ret
          exact ⟨rfl, HF.out⟩
        · have HF := hide (h.turned (S' := S.be S.op1) [(5, .int .i64 (S.n1 + 1))] [(1, .int .i64 (S.l1 - 1))] hls hws hgd (by simp [rcells, DS.be, DS.op1, DS.tr, DS.out, tick, ft, hdk, hts, hs, hl]) (by simp [fcells, DS.be, DS.op1, DS.tr, DS.out, tick, ft, hdk, hts, hs, hl]))
          have HEr : Hid (S.er S.s1 S.l1 = 0) := by simp [Hid, DS.er, tick, hdk, hts, hs, hl]
          rw [HEr.out]
          rw [show ft S.ts S.tl = -1 by simp [ft, hts]] at c3
          rw [hdk] at c2
          rw [show ft S.s1 S.l1 = S.l1 by simp [ft, hs]] at g1
          have hl1 : 0 < S.l1 := by have := hf.1; omega
          have hl2 : S.l1 ≤ 9223372036854775807 := hf.2
          have hl3 : (S.l1 == 0) = false := by simpa using hl
          clear hls hws hgd h
          go_enter Tryz.func70, Tryz.ntmps70
          go_wp2
          go_ret
          exact ⟨rfl, HF.out⟩
    · by_cases htl : S.tl = 0
      · have HF := hide (h.turned (S' := S.be S.op1) [(2, .bool true), (3, .int .i64 (-1))] [] hls hws hgd (by simp [rcells, DS.be, DS.op1, DS.tr, DS.out, tick, ft, hdk, hts, htl]) (by simp [fcells, DS.be, DS.op1, DS.tr, DS.out, tick, ft, hdk, hts, htl]))
        have HEr : Hid (S.er S.s1 S.l1 = 4) := by simp [Hid, DS.er, tick, hdk, hts, htl]
        rw [HEr.out]
        rw [hdk] at c2
        rw [show ft S.ts S.tl = 0 by simp [ft, hts, htl]] at c3
        clear hls hws hgd h
        go_enter Tryz.func70, Tryz.ntmps70
        go_wp2
        go_ret
        exact ⟨rfl, HF.out⟩
      · rcases bft S.s1 with hs | hs
        · have HF := hide (h.turned (S' := S.be S.op1) [(3, .int .i64 (S.tl - 1)), (5, .int .i64 (S.n1 + 1))] [] hls hws hgd (by simp [rcells, DS.be, DS.op1, DS.tr, DS.out, tick, ft, hdk, hts, htl, hs]) (by simp [fcells, DS.be, DS.op1, DS.tr, DS.out, tick, ft, hdk, hts, htl, hs]))
          have HEr : Hid (S.er S.s1 S.l1 = 0) := by simp [Hid, DS.er, tick, hdk, hts, htl, hs]
          rw [HEr.out]
          rw [show ft S.ts S.tl = S.tl by simp [ft, hts]] at c3
          have ht1 : 0 < S.tl := by have := ht.1; omega
          have ht2 : S.tl ≤ 9223372036854775807 := ht.2
          have ht3 : (S.tl == 0) = false := by simpa using htl
          rw [hdk] at c2
          rw [show ft S.s1 S.l1 = -1 by simp [ft, hs]] at g1
          clear hls hws hgd h
          go_enter Tryz.func70, Tryz.ntmps70
          go_wp2
          go_ret
          exact ⟨rfl, HF.out⟩
        · by_cases hl : S.l1 = 0
          · have HF := hide (h.turned (S' := S.be S.op1) [(3, .int .i64 (S.tl - 1)), (5, .int .i64 (S.n1 + 1))] [(1, .int .i64 (-1))] hls hws hgd (by simp [rcells, DS.be, DS.op1, DS.tr, DS.out, tick, ft, hdk, hts, htl, hs, hl]) (by simp [fcells, DS.be, DS.op1, DS.tr, DS.out, tick, ft, hdk, hts, htl, hs, hl]))
            have HEr : Hid (S.er S.s1 S.l1 = 6) := by simp [Hid, DS.er, tick, hdk, hts, htl, hs, hl]
            rw [HEr.out]
            rw [show ft S.ts S.tl = S.tl by simp [ft, hts]] at c3
            have ht1 : 0 < S.tl := by have := ht.1; omega
            have ht2 : S.tl ≤ 9223372036854775807 := ht.2
            have ht3 : (S.tl == 0) = false := by simpa using htl
            rw [hdk] at c2
            rw [show ft S.s1 S.l1 = 0 by simp [ft, hs, hl]] at g1
            clear hls hws hgd h
            go_enter Tryz.func70, Tryz.ntmps70
            go_wp2
            go_ret
            exact ⟨rfl, HF.out⟩
          · have HF := hide (h.turned (S' := S.be S.op1) [(3, .int .i64 (S.tl - 1)), (5, .int .i64 (S.n1 + 1))] [(1, .int .i64 (S.l1 - 1))] hls hws hgd (by simp [rcells, DS.be, DS.op1, DS.tr, DS.out, tick, ft, hdk, hts, htl, hs, hl]) (by simp [fcells, DS.be, DS.op1, DS.tr, DS.out, tick, ft, hdk, hts, htl, hs, hl]))
            have HEr : Hid (S.er S.s1 S.l1 = 0) := by simp [Hid, DS.er, tick, hdk, hts, htl, hs, hl]
            rw [HEr.out]
            rw [show ft S.ts S.tl = S.tl by simp [ft, hts]] at c3
            have ht1 : 0 < S.tl := by have := ht.1; omega
            have ht2 : S.tl ≤ 9223372036854775807 := ht.2
            have ht3 : (S.tl == 0) = false := by simpa using htl
            rw [hdk] at c2
            rw [show ft S.s1 S.l1 = S.l1 by simp [ft, hs]] at g1
            have hl1 : 0 < S.l1 := by have := hf.1; omega
            have hl2 : S.l1 ≤ 9223372036854775807 := hf.2
            have hl3 : (S.l1 == 0) = false := by simpa using hl
            clear hls hws hgd h
            go_enter Tryz.func70, Tryz.ntmps70
            go_wp2
            go_ret
            exact ⟨rfl, HF.out⟩
  · have HF := hide (h.turned (S' := S.be S.op1) [] [] hls hws hgd (by simp [rcells, DS.be, DS.op1, DS.tr, DS.out, tick, ft, hdk]) (by simp [fcells, DS.be, DS.op1, DS.tr, DS.out, tick, ft, hdk]))
    have HEr : Hid (S.er S.s1 S.l1 = 4) := by simp [Hid, DS.er, tick, hdk]
    rw [HEr.out]
    rw [hdk] at c2
    clear hls hws hgd h
    go_enter Tryz.func70, Tryz.ntmps70
    go_wp2
    go_ret
    exact ⟨rfl, HF.out⟩
set_option maxHeartbeats 3200000 in
set_option maxRecDepth 1000000 in
theorem begins2 (h : RD w p vl Ls vc Cs f S) (hn : S.n2 + 1 ≤ 1000000) :
    Calls Tryz.prog 70 #[.pointer (some ⟨p, 0, none⟩), .int .i64 2] w fun e w' => e = .returned (.int .u16 (S.er S.s2 S.l2 : Int)) ∧ RD w' p vl Ls vc Cs f (S.be S.op2) ∧ Mv (fun k => k = p ∨ k = f) w w' := by
  have hls : (S.be S.op2).ls = S.ls := by unfold DS.be; split; rfl; split <;> rfl
  have hws : (S.be S.op2).ws = S.ws := by unfold DS.be; split; rfl; split <;> rfl
  have hgd : (S.be S.op2).Good := DS.be_good h.good (h.good.op2 hn)
  have hn0 := h.good.n2.1
  have ht := h.good.t
  have hf := h.good.f2
  have c2 := h.c 2 (.bool S.dk) rfl
  have c3 := h.c 3 (.int .i64 (ft S.ts S.tl)) rfl
  have c4 := h.c 4 (.slice (some ⟨f, 0, none⟩) 4 4) rfl
  have c5 := h.c 6 (.int .i64 S.n2) rfl
  have g1 := h.fc 2 (.int .i64 (ft S.s2 S.l2)) rfl
  have z2 := h.fz 2
  have z3 := h.fz 3
  have z5 := h.fz 6
  have y1 := h.ff 2
  have hpf := h.pf
  have hfp : f ≠ p := fun e => hpf e.symm
  rcases bft S.dk with hdk | hdk
  · rcases bft S.ts with hts | hts
    · rcases bft S.s2 with hs | hs
      · have HF := hide (h.turned (S' := S.be S.op2) [(6, .int .i64 (S.n2 + 1))] [] hls hws hgd (by simp [rcells, DS.be, DS.op2, DS.tr, DS.out, tick, ft, hdk, hts, hs]) (by simp [fcells, DS.be, DS.op2, DS.tr, DS.out, tick, ft, hdk, hts, hs]))
        have HEr : Hid (S.er S.s2 S.l2 = 0) := by simp [Hid, DS.er, tick, hdk, hts, hs]
        rw [HEr.out]
        rw [show ft S.ts S.tl = -1 by simp [ft, hts]] at c3
        rw [hdk] at c2
        rw [show ft S.s2 S.l2 = -1 by simp [ft, hs]] at g1
        clear hls hws hgd h
        go_enter Tryz.func70, Tryz.ntmps70
        go_wp2
        go_ret
        exact ⟨rfl, HF.out⟩
      · by_cases hl : S.l2 = 0
        · have HF := hide (h.turned (S' := S.be S.op2) [(6, .int .i64 (S.n2 + 1))] [(2, .int .i64 (-1))] hls hws hgd (by simp [rcells, DS.be, DS.op2, DS.tr, DS.out, tick, ft, hdk, hts, hs, hl]) (by simp [fcells, DS.be, DS.op2, DS.tr, DS.out, tick, ft, hdk, hts, hs, hl]))
          have HEr : Hid (S.er S.s2 S.l2 = 6) := by simp [Hid, DS.er, tick, hdk, hts, hs, hl]
          rw [HEr.out]
          rw [show ft S.ts S.tl = -1 by simp [ft, hts]] at c3
          rw [hdk] at c2
          rw [show ft S.s2 S.l2 = 0 by simp [ft, hs, hl]] at g1
          clear hls hws hgd h
          go_enter Tryz.func70, Tryz.ntmps70
          go_wp2
          go_ret
          exact ⟨rfl, HF.out⟩
        · have HF := hide (h.turned (S' := S.be S.op2) [(6, .int .i64 (S.n2 + 1))] [(2, .int .i64 (S.l2 - 1))] hls hws hgd (by simp [rcells, DS.be, DS.op2, DS.tr, DS.out, tick, ft, hdk, hts, hs, hl]) (by simp [fcells, DS.be, DS.op2, DS.tr, DS.out, tick, ft, hdk, hts, hs, hl]))
          have HEr : Hid (S.er S.s2 S.l2 = 0) := by simp [Hid, DS.er, tick, hdk, hts, hs, hl]
          rw [HEr.out]
          rw [show ft S.ts S.tl = -1 by simp [ft, hts]] at c3
          rw [hdk] at c2
          rw [show ft S.s2 S.l2 = S.l2 by simp [ft, hs]] at g1
          have hl1 : 0 < S.l2 := by have := hf.1; omega
          have hl2 : S.l2 ≤ 9223372036854775807 := hf.2
          have hl3 : (S.l2 == 0) = false := by simpa using hl
          clear hls hws hgd h
          go_enter Tryz.func70, Tryz.ntmps70
          go_wp2
          go_ret
          exact ⟨rfl, HF.out⟩
    · by_cases htl : S.tl = 0
      · have HF := hide (h.turned (S' := S.be S.op2) [(2, .bool true), (3, .int .i64 (-1))] [] hls hws hgd (by simp [rcells, DS.be, DS.op2, DS.tr, DS.out, tick, ft, hdk, hts, htl]) (by simp [fcells, DS.be, DS.op2, DS.tr, DS.out, tick, ft, hdk, hts, htl]))
        have HEr : Hid (S.er S.s2 S.l2 = 4) := by simp [Hid, DS.er, tick, hdk, hts, htl]
        rw [HEr.out]
        rw [hdk] at c2
        rw [show ft S.ts S.tl = 0 by simp [ft, hts, htl]] at c3
        clear hls hws hgd h
        go_enter Tryz.func70, Tryz.ntmps70
        go_wp2
        go_ret
        exact ⟨rfl, HF.out⟩
      · rcases bft S.s2 with hs | hs
        · have HF := hide (h.turned (S' := S.be S.op2) [(3, .int .i64 (S.tl - 1)), (6, .int .i64 (S.n2 + 1))] [] hls hws hgd (by simp [rcells, DS.be, DS.op2, DS.tr, DS.out, tick, ft, hdk, hts, htl, hs]) (by simp [fcells, DS.be, DS.op2, DS.tr, DS.out, tick, ft, hdk, hts, htl, hs]))
          have HEr : Hid (S.er S.s2 S.l2 = 0) := by simp [Hid, DS.er, tick, hdk, hts, htl, hs]
          rw [HEr.out]
          rw [show ft S.ts S.tl = S.tl by simp [ft, hts]] at c3
          have ht1 : 0 < S.tl := by have := ht.1; omega
          have ht2 : S.tl ≤ 9223372036854775807 := ht.2
          have ht3 : (S.tl == 0) = false := by simpa using htl
          rw [hdk] at c2
          rw [show ft S.s2 S.l2 = -1 by simp [ft, hs]] at g1
          clear hls hws hgd h
          go_enter Tryz.func70, Tryz.ntmps70
          go_wp2
          go_ret
          exact ⟨rfl, HF.out⟩
        · by_cases hl : S.l2 = 0
          · have HF := hide (h.turned (S' := S.be S.op2) [(3, .int .i64 (S.tl - 1)), (6, .int .i64 (S.n2 + 1))] [(2, .int .i64 (-1))] hls hws hgd (by simp [rcells, DS.be, DS.op2, DS.tr, DS.out, tick, ft, hdk, hts, htl, hs, hl]) (by simp [fcells, DS.be, DS.op2, DS.tr, DS.out, tick, ft, hdk, hts, htl, hs, hl]))
            have HEr : Hid (S.er S.s2 S.l2 = 6) := by simp [Hid, DS.er, tick, hdk, hts, htl, hs, hl]
            rw [HEr.out]
            rw [show ft S.ts S.tl = S.tl by simp [ft, hts]] at c3
            have ht1 : 0 < S.tl := by have := ht.1; omega
            have ht2 : S.tl ≤ 9223372036854775807 := ht.2
            have ht3 : (S.tl == 0) = false := by simpa using htl
            rw [hdk] at c2
            rw [show ft S.s2 S.l2 = 0 by simp [ft, hs, hl]] at g1
            clear hls hws hgd h
            go_enter Tryz.func70, Tryz.ntmps70
            go_wp2
            go_ret
            exact ⟨rfl, HF.out⟩
          · have HF := hide (h.turned (S' := S.be S.op2) [(3, .int .i64 (S.tl - 1)), (6, .int .i64 (S.n2 + 1))] [(2, .int .i64 (S.l2 - 1))] hls hws hgd (by simp [rcells, DS.be, DS.op2, DS.tr, DS.out, tick, ft, hdk, hts, htl, hs, hl]) (by simp [fcells, DS.be, DS.op2, DS.tr, DS.out, tick, ft, hdk, hts, htl, hs, hl]))
            have HEr : Hid (S.er S.s2 S.l2 = 0) := by simp [Hid, DS.er, tick, hdk, hts, htl, hs, hl]
            rw [HEr.out]
            rw [show ft S.ts S.tl = S.tl by simp [ft, hts]] at c3
            have ht1 : 0 < S.tl := by have := ht.1; omega
            have ht2 : S.tl ≤ 9223372036854775807 := ht.2
            have ht3 : (S.tl == 0) = false := by simpa using htl
            rw [hdk] at c2
            rw [show ft S.s2 S.l2 = S.l2 by simp [ft, hs]] at g1
            have hl1 : 0 < S.l2 := by have := hf.1; omega
            have hl2 : S.l2 ≤ 9223372036854775807 := hf.2
            have hl3 : (S.l2 == 0) = false := by simpa using hl
            clear hls hws hgd h
            go_enter Tryz.func70, Tryz.ntmps70
            go_wp2
            go_ret
            exact ⟨rfl, HF.out⟩
  · have HF := hide (h.turned (S' := S.be S.op2) [] [] hls hws hgd (by simp [rcells, DS.be, DS.op2, DS.tr, DS.out, tick, ft, hdk]) (by simp [fcells, DS.be, DS.op2, DS.tr, DS.out, tick, ft, hdk]))
    have HEr : Hid (S.er S.s2 S.l2 = 4) := by simp [Hid, DS.er, tick, hdk]
    rw [HEr.out]
    rw [hdk] at c2
    clear hls hws hgd h
    go_enter Tryz.func70, Tryz.ntmps70
    go_wp2
    go_ret
    exact ⟨rfl, HF.out⟩
set_option maxHeartbeats 3200000 in
set_option maxRecDepth 1000000 in
theorem begins3 (h : RD w p vl Ls vc Cs f S) (hn : S.n3 + 1 ≤ 1000000) :
    Calls Tryz.prog 70 #[.pointer (some ⟨p, 0, none⟩), .int .i64 3] w fun e w' => e = .returned (.int .u16 (S.er S.s3 S.l3 : Int)) ∧ RD w' p vl Ls vc Cs f (S.be S.op3) ∧ Mv (fun k => k = p ∨ k = f) w w' := by
  have hls : (S.be S.op3).ls = S.ls := by unfold DS.be; split; rfl; split <;> rfl
  have hws : (S.be S.op3).ws = S.ws := by unfold DS.be; split; rfl; split <;> rfl
  have hgd : (S.be S.op3).Good := DS.be_good h.good (h.good.op3 hn)
  have hn0 := h.good.n3.1
  have ht := h.good.t
  have hf := h.good.f3
  have c2 := h.c 2 (.bool S.dk) rfl
  have c3 := h.c 3 (.int .i64 (ft S.ts S.tl)) rfl
  have c4 := h.c 4 (.slice (some ⟨f, 0, none⟩) 4 4) rfl
  have c5 := h.c 7 (.int .i64 S.n3) rfl
  have g1 := h.fc 3 (.int .i64 (ft S.s3 S.l3)) rfl
  have z2 := h.fz 2
  have z3 := h.fz 3
  have z5 := h.fz 7
  have y1 := h.ff 3
  have hpf := h.pf
  have hfp : f ≠ p := fun e => hpf e.symm
  rcases bft S.dk with hdk | hdk
  · rcases bft S.ts with hts | hts
    · rcases bft S.s3 with hs | hs
      · have HF := hide (h.turned (S' := S.be S.op3) [(7, .int .i64 (S.n3 + 1))] [] hls hws hgd (by simp [rcells, DS.be, DS.op3, DS.tr, DS.out, tick, ft, hdk, hts, hs]) (by simp [fcells, DS.be, DS.op3, DS.tr, DS.out, tick, ft, hdk, hts, hs]))
        have HEr : Hid (S.er S.s3 S.l3 = 0) := by simp [Hid, DS.er, tick, hdk, hts, hs]
        rw [HEr.out]
        rw [show ft S.ts S.tl = -1 by simp [ft, hts]] at c3
        rw [hdk] at c2
        rw [show ft S.s3 S.l3 = -1 by simp [ft, hs]] at g1
        clear hls hws hgd h
        go_enter Tryz.func70, Tryz.ntmps70
        go_wp2
        go_ret
        exact ⟨rfl, HF.out⟩
      · by_cases hl : S.l3 = 0
        · have HF := hide (h.turned (S' := S.be S.op3) [(7, .int .i64 (S.n3 + 1))] [(3, .int .i64 (-1))] hls hws hgd (by simp [rcells, DS.be, DS.op3, DS.tr, DS.out, tick, ft, hdk, hts, hs, hl]) (by simp [fcells, DS.be, DS.op3, DS.tr, DS.out, tick, ft, hdk, hts, hs, hl]))
          have HEr : Hid (S.er S.s3 S.l3 = 6) := by simp [Hid, DS.er, tick, hdk, hts, hs, hl]
          rw [HEr.out]
          rw [show ft S.ts S.tl = -1 by simp [ft, hts]] at c3
          rw [hdk] at c2
          rw [show ft S.s3 S.l3 = 0 by simp [ft, hs, hl]] at g1
          clear hls hws hgd h
          go_enter Tryz.func70, Tryz.ntmps70
          go_wp2
          go_ret
          exact ⟨rfl, HF.out⟩
        · have HF := hide (h.turned (S' := S.be S.op3) [(7, .int .i64 (S.n3 + 1))] [(3, .int .i64 (S.l3 - 1))] hls hws hgd (by simp [rcells, DS.be, DS.op3, DS.tr, DS.out, tick, ft, hdk, hts, hs, hl]) (by simp [fcells, DS.be, DS.op3, DS.tr, DS.out, tick, ft, hdk, hts, hs, hl]))
          have HEr : Hid (S.er S.s3 S.l3 = 0) := by simp [Hid, DS.er, tick, hdk, hts, hs, hl]
          rw [HEr.out]
          rw [show ft S.ts S.tl = -1 by simp [ft, hts]] at c3
          rw [hdk] at c2
          rw [show ft S.s3 S.l3 = S.l3 by simp [ft, hs]] at g1
          have hl1 : 0 < S.l3 := by have := hf.1; omega
          have hl2 : S.l3 ≤ 9223372036854775807 := hf.2
          have hl3 : (S.l3 == 0) = false := by simpa using hl
          clear hls hws hgd h
          go_enter Tryz.func70, Tryz.ntmps70
          go_wp2
          go_ret
          exact ⟨rfl, HF.out⟩
    · by_cases htl : S.tl = 0
      · have HF := hide (h.turned (S' := S.be S.op3) [(2, .bool true), (3, .int .i64 (-1))] [] hls hws hgd (by simp [rcells, DS.be, DS.op3, DS.tr, DS.out, tick, ft, hdk, hts, htl]) (by simp [fcells, DS.be, DS.op3, DS.tr, DS.out, tick, ft, hdk, hts, htl]))
        have HEr : Hid (S.er S.s3 S.l3 = 4) := by simp [Hid, DS.er, tick, hdk, hts, htl]
        rw [HEr.out]
        rw [hdk] at c2
        rw [show ft S.ts S.tl = 0 by simp [ft, hts, htl]] at c3
        clear hls hws hgd h
        go_enter Tryz.func70, Tryz.ntmps70
        go_wp2
        go_ret
        exact ⟨rfl, HF.out⟩
      · rcases bft S.s3 with hs | hs
        · have HF := hide (h.turned (S' := S.be S.op3) [(3, .int .i64 (S.tl - 1)), (7, .int .i64 (S.n3 + 1))] [] hls hws hgd (by simp [rcells, DS.be, DS.op3, DS.tr, DS.out, tick, ft, hdk, hts, htl, hs]) (by simp [fcells, DS.be, DS.op3, DS.tr, DS.out, tick, ft, hdk, hts, htl, hs]))
          have HEr : Hid (S.er S.s3 S.l3 = 0) := by simp [Hid, DS.er, tick, hdk, hts, htl, hs]
          rw [HEr.out]
          rw [show ft S.ts S.tl = S.tl by simp [ft, hts]] at c3
          have ht1 : 0 < S.tl := by have := ht.1; omega
          have ht2 : S.tl ≤ 9223372036854775807 := ht.2
          have ht3 : (S.tl == 0) = false := by simpa using htl
          rw [hdk] at c2
          rw [show ft S.s3 S.l3 = -1 by simp [ft, hs]] at g1
          clear hls hws hgd h
          go_enter Tryz.func70, Tryz.ntmps70
          go_wp2
          go_ret
          exact ⟨rfl, HF.out⟩
        · by_cases hl : S.l3 = 0
          · have HF := hide (h.turned (S' := S.be S.op3) [(3, .int .i64 (S.tl - 1)), (7, .int .i64 (S.n3 + 1))] [(3, .int .i64 (-1))] hls hws hgd (by simp [rcells, DS.be, DS.op3, DS.tr, DS.out, tick, ft, hdk, hts, htl, hs, hl]) (by simp [fcells, DS.be, DS.op3, DS.tr, DS.out, tick, ft, hdk, hts, htl, hs, hl]))
            have HEr : Hid (S.er S.s3 S.l3 = 6) := by simp [Hid, DS.er, tick, hdk, hts, htl, hs, hl]
            rw [HEr.out]
            rw [show ft S.ts S.tl = S.tl by simp [ft, hts]] at c3
            have ht1 : 0 < S.tl := by have := ht.1; omega
            have ht2 : S.tl ≤ 9223372036854775807 := ht.2
            have ht3 : (S.tl == 0) = false := by simpa using htl
            rw [hdk] at c2
            rw [show ft S.s3 S.l3 = 0 by simp [ft, hs, hl]] at g1
            clear hls hws hgd h
            go_enter Tryz.func70, Tryz.ntmps70
            go_wp2
            go_ret
            exact ⟨rfl, HF.out⟩
          · have HF := hide (h.turned (S' := S.be S.op3) [(3, .int .i64 (S.tl - 1)), (7, .int .i64 (S.n3 + 1))] [(3, .int .i64 (S.l3 - 1))] hls hws hgd (by simp [rcells, DS.be, DS.op3, DS.tr, DS.out, tick, ft, hdk, hts, htl, hs, hl]) (by simp [fcells, DS.be, DS.op3, DS.tr, DS.out, tick, ft, hdk, hts, htl, hs, hl]))
            have HEr : Hid (S.er S.s3 S.l3 = 0) := by simp [Hid, DS.er, tick, hdk, hts, htl, hs, hl]
            rw [HEr.out]
            rw [show ft S.ts S.tl = S.tl by simp [ft, hts]] at c3
            have ht1 : 0 < S.tl := by have := ht.1; omega
            have ht2 : S.tl ≤ 9223372036854775807 := ht.2
            have ht3 : (S.tl == 0) = false := by simpa using htl
            rw [hdk] at c2
            rw [show ft S.s3 S.l3 = S.l3 by simp [ft, hs]] at g1
            have hl1 : 0 < S.l3 := by have := hf.1; omega
            have hl2 : S.l3 ≤ 9223372036854775807 := hf.2
            have hl3 : (S.l3 == 0) = false := by simpa using hl
            clear hls hws hgd h
            go_enter Tryz.func70, Tryz.ntmps70
            go_wp2
            go_ret
            exact ⟨rfl, HF.out⟩
  · have HF := hide (h.turned (S' := S.be S.op3) [] [] hls hws hgd (by simp [rcells, DS.be, DS.op3, DS.tr, DS.out, tick, ft, hdk]) (by simp [fcells, DS.be, DS.op3, DS.tr, DS.out, tick, ft, hdk]))
    have HEr : Hid (S.er S.s3 S.l3 = 4) := by simp [Hid, DS.er, tick, hdk]
    rw [HEr.out]
    rw [hdk] at c2
    clear hls hws hgd h
    go_enter Tryz.func70, Tryz.ntmps70
    go_wp2
    go_ret
    exact ⟨rfl, HF.out⟩
end Go.Proofs.YtlmofgfkclfgeaaGreat
/- A write and a read that are refused: a page that is not there, bytes of another length. -/
namespace Go.Proofs.YtlmofgfkclfgeaaGreat
open Go.RowKit Go.Maps
set_option linter.unusedVariables false

set_option maxHeartbeats 1600000 in
set_option maxRecDepth 1000000 in
theorem reads_range (p q : Nat) (vw : Value) (m : Option Nat) (S : DS) (k0 k1 : Nat) (x2 : Value) (pg : Int) (w : World) (h : Dk w p q vw m S)
    (c0 : w.cell? ⟨k0, 0, none⟩ = some (.pointer (some ⟨p, 0, none⟩))) (c1 : w.cell? ⟨k1, 0, none⟩ = some (.int .i64 pg)) (hpg : ¬ (0 ≤ pg ∧ pg < ((S.ls.length / 8 : Nat) : Int))) :
    Calls Tryz.prog 86 #[.pointer (some ⟨k0, 0, none⟩), .pointer (some ⟨k1, 0, none⟩), x2] w fun e w' => e = .returned (.int .u16 2) ∧ Below w.heap.size w w' := by
  have Hhas := hide (has_any p q S.ls.length pg w (h.c 0 (.slice (some ⟨q, 0, none⟩) S.ls.length S.ls.length) rfl) h.good.most)
  rw [decide_eq_false hpg] at Hhas
  clear h hpg
  go_enter Tryz.func86, Tryz.ntmps86
  go_wp2_with fail
  refine Hhas.out.mono ?_
  rintro e w1 ⟨rfl, hb⟩
  have HB := hide hb
  clear hb
  go_wp2
  go_ret
  exact ⟨rfl, HB.out⟩
/-- a write that is refused, for its page or for its bytes: it is counted, and uses up trip and fault. -/
def DS.wno (S : DS) (pg : Int) (len : Nat) : Nat := if S.er S.s2 S.l2 ≠ 0 then S.er S.s2 S.l2 else if ¬ (0 ≤ pg ∧ pg < ((S.ls.length / 8 : Nat) : Int)) then 2 else 1
end Go.Proofs.YtlmofgfkclfgeaaGreat
