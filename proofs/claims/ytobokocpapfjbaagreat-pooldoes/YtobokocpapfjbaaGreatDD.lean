/- An operation: the power and the faults first, then what is handed in. -/
import Derived.Test.YtobokocpapfjbaaGreatDC
namespace Go.Proofs.YtobokocpapfjbaaGreat
open Go.RowKit Go.Maps
set_option linter.unusedVariables false

/-- the trip has counted. -/
def DS.tr (S : DS) : DS := { S with ts := (tick S.ts S.tl).2.1, tl := (tick S.ts S.tl).2.2 }
def DS.out (S : DS) : DS := { S.tr with dk := true }
/-- an operation whose kind's fault is s, l: its error, 0 where it is done. -/
def DS.er (S : DS) (s : Bool) (l : Int) : Nat := if S.dk = true then 4 else if (tick S.ts S.tl).1 = true then 4 else if (tick s l).1 = true then 6 else 0
def DS.be (S : DS) (S' : DS) : DS := if S.dk = true then S else if (tick S.ts S.tl).1 = true then S.out else S'
theorem DS.Good.tr {S : DS} (h : S.Good) : S.tr.Good := ⟨h.ls, h.ws, h.most, h.few, tick_cd _ _ h.t, h.f1, h.f2, h.f3, h.n1, h.n2, h.n3⟩
theorem DS.Good.out {S : DS} (h : S.Good) : S.out.Good := ⟨h.ls, h.ws, h.most, h.few, tick_cd _ _ h.t, h.f1, h.f2, h.f3, h.n1, h.n2, h.n3⟩
/-- behind the count and the fault of kind 1. -/
def DS.op1 (S : DS) : DS := { S.tr with n1 := S.n1 + 1, s1 := (tick S.s1 S.l1).2.1, l1 := (tick S.s1 S.l1).2.2 }
def DS.c1 (S : DS) : DS := { S.tr with n1 := S.n1 + 1 }
theorem DS.Good.c1 {S : DS} (h : S.Good) (hn : S.n1 + 1 ≤ 1000000) : S.c1.Good := ⟨h.ls, h.ws, h.most, h.few, tick_cd _ _ h.t, h.f1, h.f2, h.f3, ⟨by have := h.n1.1; show 0 ≤ S.n1 + 1; omega, hn⟩, h.n2, h.n3⟩
theorem DS.Good.op1 {S : DS} (h : S.Good) (hn : S.n1 + 1 ≤ 1000000) : S.op1.Good := ⟨h.ls, h.ws, h.most, h.few, tick_cd _ _ h.t, tick_cd _ _ h.f1, h.f2, h.f3, ⟨by have := h.n1.1; show 0 ≤ S.n1 + 1; omega, hn⟩, h.n2, h.n3⟩

set_option maxHeartbeats 1600000 in
set_option maxRecDepth 1000000 in
theorem operate1 (p q : Nat) (vw : Value) (m : Option Nat) (S : DS) (w : World) (x0 x1 x2 : Value) (Post : Int → World → Prop) (h : Dk w p q vw m S) (hn : S.n1 + 1 ≤ 1000000)
    (hcall : S.er S.s1 S.l1 = 0 → ∀ W, Dk W p q vw m S.op1 → Mv (· = p) w W → W.heap.size = w.heap.size → Calls Tryz.prog 88 #[x0, x1, x2] W fun e w' => ∃ x, e = .returned (.int .u16 x) ∧ Post x w')
    (hpost : S.er S.s1 S.l1 ≠ 0 → ∀ W, Dk W p q vw m (S.be S.op1) → Mv (· = p) w W → W.heap.size = w.heap.size → Post (S.er S.s1 S.l1 : Int) W) :
    Calls Tryz.prog 37 #[.pointer (some ⟨p, 0, none⟩), .int .i64 1, .func (.func 88) #[] #[x0, x1, x2]] w fun e w' => ∃ x, e = .returned (.int .u16 x) ∧ Post x w' := by
  have HD := hide h
  have HC := hide hcall
  have HP := hide hpost
  have k3 := h.c 3 (.bool S.dk) rfl
  have HG := hide h.good
  clear h hcall hpost
  cases hdk : S.dk
  · rw [hdk] at k3
    have HT := hide (strikes_at p q vw m S S.tr 4 S.ts S.tl w HD.out rfl rfl HG.out.t rfl rfl HG.out.tr rfl)
    cases ht : (tick S.ts S.tl).1
    · rw [ht] at HT
      have HN : Hid (0 ≤ S.n1 ∧ S.n1 + 1 ≤ 1000000) := ⟨HG.out.n1.1, hn⟩
      have hnw : IntKind.i64.wrap (S.n1 + 1) = S.n1 + 1 := by rw [IntKind.wrap_i64]; have := HN.out; omega
      go_enter Tryz.func37, Tryz.ntmps37
      go_wp2_with fail
      refine HT.out.mono ?_
      rintro e w1 ⟨rfl, hd1, hm1, hs1⟩
      have k16 := hd1.c 15 (.int .i64 S.n1) rfl
      have f16 := hd1.f 15
      have HD2 := hide (hd1.fields (S' := S.c1) rfl rfl (HG.out.c1 hn) (w' := (w1.setCell ⟨p, 15, none⟩ (.int .i64 (S.n1 + 1))).drew) (heap_setCell_same w1 p 15 _ 108 _ hd1.blk) (fun k hk => set_other w1 p 15 _ k hk))
      have HM2 : Hid (Mv (· = p) w (w1.setCell ⟨p, 15, none⟩ (.int .i64 (S.n1 + 1))).drew) := hm1.trans' ((mv_set w1 p 15 _).trans' ⟨rfl, rfl, rfl, Nat.le_refl _, fun _ _ _ => rfl⟩)
      have HS2 : Hid ((w1.setCell ⟨p, 15, none⟩ (.int .i64 (S.n1 + 1))).drew.heap.size = w.heap.size) := by simpa [World.setCell, Hid] using hs1
      clear hd1 hm1 hs1
      go_wp2
      go_region
      generalize (w1.setCell ⟨p, 15, none⟩ (.int .i64 (S.n1 + 1))).drew = w2 at HD2 HM2 HS2 ⊢
      clear k16 f16
      have HT2 := hide (strikes_at p q vw m S.c1 S.op1 8 S.s1 S.l1 w2 HD2.out rfl rfl HG.out.f1 rfl rfl (HG.out.op1 hn) rfl)
      cases ht2 : (tick S.s1 S.l1).1
      · rw [ht2] at HT2
        have e1 : Hid (S.er S.s1 S.l1 = 0) := by simp [DS.er, hdk, ht, ht2, Hid]
        have HC2 := hide (HC.out e1.out)
        clear HC HP e1
        go_wp2_with fail
        refine HT2.out.mono ?_
        rintro e w3 ⟨rfl, hd3, hm3, hs3⟩
        have HR := hide (HC2.out w3 hd3 (HM2.out.trans' hm3) (hs3.trans HS2.out))
        clear hd3 hm3 hs3 HC2
        go_wp2_with fail
        refine HR.out.mono ?_
        rintro e w4 ⟨x, rfl, hpost⟩
        have HQ := hide hpost
        clear hpost
        go_wp2
        go_ret
        exact ⟨x, rfl, HQ.out⟩
      · rw [ht2] at HT2
        have e1 : Hid (S.er S.s1 S.l1 = 6) := by simp [DS.er, hdk, ht, ht2, Hid]
        have e2 : Hid (S.be S.op1 = S.op1) := by simp [DS.be, hdk, ht, Hid]
        go_wp2_with fail
        refine HT2.out.mono ?_
        rintro e w3 ⟨rfl, hd3, hm3, hs3⟩
        have HR := hide (HP.out (by rw [e1.out]; omega) w3 (by rw [e2.out]; exact hd3) (HM2.out.trans' hm3) (hs3.trans HS2.out))
        rw [e1.out] at HR
        clear hd3 hm3 hs3 HC HP
        go_wp2
        go_ret
        exact ⟨_, rfl, HR.out⟩
    · rw [ht] at HT
      have e1 : Hid (S.er S.s1 S.l1 = 4) := by simp [DS.er, hdk, ht, Hid]
      have e2 : Hid (S.be S.op1 = S.out) := by simp [DS.be, hdk, ht, Hid]
      go_enter Tryz.func37, Tryz.ntmps37
      go_wp2_with fail
      refine HT.out.mono ?_
      rintro e w1 ⟨rfl, hd1, hm1, hs1⟩
      have k3' := hd1.c 3 (.bool S.dk) rfl
      have f3 := hd1.f 3
      have HR := hide (HP.out (by rw [e1.out]; omega) (w1.setCell ⟨p, 3, none⟩ (.bool true)) (by rw [e2.out]; exact hd1.fields rfl rfl HG.out.out (heap_setCell_same _ p 3 _ 108 _ hd1.blk) (fun k hk => set_other _ _ _ _ _ hk)) (hm1.trans' (mv_set _ _ _ _)) (by simpa [World.setCell] using hs1))
      rw [e1.out] at HR
      clear hd1 hm1 hs1 HC HP HD HG e1 e2 hdk
      go_wp2
      go_ret
      exact ⟨_, rfl, HR.out⟩
  · rw [hdk] at k3
    have e1 : Hid (S.er S.s1 S.l1 = 4) := by simp [DS.er, hdk, Hid]
    have e2 : Hid (S.be S.op1 = S) := by simp [DS.be, hdk, Hid]
    have HR := hide (HP.out (by rw [e1.out]; omega) w (by rw [e2.out]; exact HD.out) (Mv.refl _ _) rfl)
    rw [e1.out] at HR
    clear HC HP HD HG e1 e2 hdk
    go_enter Tryz.func37, Tryz.ntmps37
    go_wp2
    go_ret
    exact ⟨_, rfl, HR.out⟩
/-- behind the count and the fault of kind 2. -/
def DS.op2 (S : DS) : DS := { S.tr with n2 := S.n2 + 1, s2 := (tick S.s2 S.l2).2.1, l2 := (tick S.s2 S.l2).2.2 }
def DS.c2 (S : DS) : DS := { S.tr with n2 := S.n2 + 1 }
theorem DS.Good.c2 {S : DS} (h : S.Good) (hn : S.n2 + 1 ≤ 1000000) : S.c2.Good := ⟨h.ls, h.ws, h.most, h.few, tick_cd _ _ h.t, h.f1, h.f2, h.f3, h.n1, ⟨by have := h.n2.1; show 0 ≤ S.n2 + 1; omega, hn⟩, h.n3⟩
theorem DS.Good.op2 {S : DS} (h : S.Good) (hn : S.n2 + 1 ≤ 1000000) : S.op2.Good := ⟨h.ls, h.ws, h.most, h.few, tick_cd _ _ h.t, h.f1, tick_cd _ _ h.f2, h.f3, h.n1, ⟨by have := h.n2.1; show 0 ≤ S.n2 + 1; omega, hn⟩, h.n3⟩

set_option maxHeartbeats 1600000 in
set_option maxRecDepth 1000000 in
theorem operate2 (p q : Nat) (vw : Value) (m : Option Nat) (S : DS) (w : World) (x0 x1 x2 : Value) (Post : Int → World → Prop) (h : Dk w p q vw m S) (hn : S.n2 + 1 ≤ 1000000)
    (hcall : S.er S.s2 S.l2 = 0 → ∀ W, Dk W p q vw m S.op2 → Mv (· = p) w W → W.heap.size = w.heap.size → Calls Tryz.prog 38 #[x0, x1, x2] W fun e w' => ∃ x, e = .returned (.int .u16 x) ∧ Post x w')
    (hpost : S.er S.s2 S.l2 ≠ 0 → ∀ W, Dk W p q vw m (S.be S.op2) → Mv (· = p) w W → W.heap.size = w.heap.size → Post (S.er S.s2 S.l2 : Int) W) :
    Calls Tryz.prog 37 #[.pointer (some ⟨p, 0, none⟩), .int .i64 2, .func (.func 38) #[] #[x0, x1, x2]] w fun e w' => ∃ x, e = .returned (.int .u16 x) ∧ Post x w' := by
  have HD := hide h
  have HC := hide hcall
  have HP := hide hpost
  have k3 := h.c 3 (.bool S.dk) rfl
  have HG := hide h.good
  clear h hcall hpost
  cases hdk : S.dk
  · rw [hdk] at k3
    have HT := hide (strikes_at p q vw m S S.tr 4 S.ts S.tl w HD.out rfl rfl HG.out.t rfl rfl HG.out.tr rfl)
    cases ht : (tick S.ts S.tl).1
    · rw [ht] at HT
      have HN : Hid (0 ≤ S.n2 ∧ S.n2 + 1 ≤ 1000000) := ⟨HG.out.n2.1, hn⟩
      have hnw : IntKind.i64.wrap (S.n2 + 1) = S.n2 + 1 := by rw [IntKind.wrap_i64]; have := HN.out; omega
      go_enter Tryz.func37, Tryz.ntmps37
      go_wp2_with fail
      refine HT.out.mono ?_
      rintro e w1 ⟨rfl, hd1, hm1, hs1⟩
      have k16 := hd1.c 16 (.int .i64 S.n2) rfl
      have f16 := hd1.f 16
      have HD2 := hide (hd1.fields (S' := S.c2) rfl rfl (HG.out.c2 hn) (w' := (w1.setCell ⟨p, 16, none⟩ (.int .i64 (S.n2 + 1))).drew) (heap_setCell_same w1 p 16 _ 108 _ hd1.blk) (fun k hk => set_other w1 p 16 _ k hk))
      have HM2 : Hid (Mv (· = p) w (w1.setCell ⟨p, 16, none⟩ (.int .i64 (S.n2 + 1))).drew) := hm1.trans' ((mv_set w1 p 16 _).trans' ⟨rfl, rfl, rfl, Nat.le_refl _, fun _ _ _ => rfl⟩)
      have HS2 : Hid ((w1.setCell ⟨p, 16, none⟩ (.int .i64 (S.n2 + 1))).drew.heap.size = w.heap.size) := by simpa [World.setCell, Hid] using hs1
      clear hd1 hm1 hs1
      go_wp2
      go_region
      generalize (w1.setCell ⟨p, 16, none⟩ (.int .i64 (S.n2 + 1))).drew = w2 at HD2 HM2 HS2 ⊢
      clear k16 f16
      have HT2 := hide (strikes_at p q vw m S.c2 S.op2 10 S.s2 S.l2 w2 HD2.out rfl rfl HG.out.f2 rfl rfl (HG.out.op2 hn) rfl)
      cases ht2 : (tick S.s2 S.l2).1
      · rw [ht2] at HT2
        have e1 : Hid (S.er S.s2 S.l2 = 0) := by simp [DS.er, hdk, ht, ht2, Hid]
        have HC2 := hide (HC.out e1.out)
        clear HC HP e1
        go_wp2_with fail
        refine HT2.out.mono ?_
        rintro e w3 ⟨rfl, hd3, hm3, hs3⟩
        have HR := hide (HC2.out w3 hd3 (HM2.out.trans' hm3) (hs3.trans HS2.out))
        clear hd3 hm3 hs3 HC2
        go_wp2_with fail
        refine HR.out.mono ?_
        rintro e w4 ⟨x, rfl, hpost⟩
        have HQ := hide hpost
        clear hpost
        go_wp2
        go_ret
        exact ⟨x, rfl, HQ.out⟩
      · rw [ht2] at HT2
        have e1 : Hid (S.er S.s2 S.l2 = 6) := by simp [DS.er, hdk, ht, ht2, Hid]
        have e2 : Hid (S.be S.op2 = S.op2) := by simp [DS.be, hdk, ht, Hid]
        go_wp2_with fail
        refine HT2.out.mono ?_
        rintro e w3 ⟨rfl, hd3, hm3, hs3⟩
        have HR := hide (HP.out (by rw [e1.out]; omega) w3 (by rw [e2.out]; exact hd3) (HM2.out.trans' hm3) (hs3.trans HS2.out))
        rw [e1.out] at HR
        clear hd3 hm3 hs3 HC HP
        go_wp2
        go_ret
        exact ⟨_, rfl, HR.out⟩
    · rw [ht] at HT
      have e1 : Hid (S.er S.s2 S.l2 = 4) := by simp [DS.er, hdk, ht, Hid]
      have e2 : Hid (S.be S.op2 = S.out) := by simp [DS.be, hdk, ht, Hid]
      go_enter Tryz.func37, Tryz.ntmps37
      go_wp2_with fail
      refine HT.out.mono ?_
      rintro e w1 ⟨rfl, hd1, hm1, hs1⟩
      have k3' := hd1.c 3 (.bool S.dk) rfl
      have f3 := hd1.f 3
      have HR := hide (HP.out (by rw [e1.out]; omega) (w1.setCell ⟨p, 3, none⟩ (.bool true)) (by rw [e2.out]; exact hd1.fields rfl rfl HG.out.out (heap_setCell_same _ p 3 _ 108 _ hd1.blk) (fun k hk => set_other _ _ _ _ _ hk)) (hm1.trans' (mv_set _ _ _ _)) (by simpa [World.setCell] using hs1))
      rw [e1.out] at HR
      clear hd1 hm1 hs1 HC HP HD HG e1 e2 hdk
      go_wp2
      go_ret
      exact ⟨_, rfl, HR.out⟩
  · rw [hdk] at k3
    have e1 : Hid (S.er S.s2 S.l2 = 4) := by simp [DS.er, hdk, Hid]
    have e2 : Hid (S.be S.op2 = S) := by simp [DS.be, hdk, Hid]
    have HR := hide (HP.out (by rw [e1.out]; omega) w (by rw [e2.out]; exact HD.out) (Mv.refl _ _) rfl)
    rw [e1.out] at HR
    clear HC HP HD HG e1 e2 hdk
    go_enter Tryz.func37, Tryz.ntmps37
    go_wp2
    go_ret
    exact ⟨_, rfl, HR.out⟩
/-- behind the count and the fault of kind 3. -/
def DS.op3 (S : DS) : DS := { S.tr with n3 := S.n3 + 1, s3 := (tick S.s3 S.l3).2.1, l3 := (tick S.s3 S.l3).2.2 }
def DS.c3 (S : DS) : DS := { S.tr with n3 := S.n3 + 1 }
theorem DS.Good.c3 {S : DS} (h : S.Good) (hn : S.n3 + 1 ≤ 1000000) : S.c3.Good := ⟨h.ls, h.ws, h.most, h.few, tick_cd _ _ h.t, h.f1, h.f2, h.f3, h.n1, h.n2, ⟨by have := h.n3.1; show 0 ≤ S.n3 + 1; omega, hn⟩⟩
theorem DS.Good.op3 {S : DS} (h : S.Good) (hn : S.n3 + 1 ≤ 1000000) : S.op3.Good := ⟨h.ls, h.ws, h.most, h.few, tick_cd _ _ h.t, h.f1, h.f2, tick_cd _ _ h.f3, h.n1, h.n2, ⟨by have := h.n3.1; show 0 ≤ S.n3 + 1; omega, hn⟩⟩

set_option maxHeartbeats 1600000 in
set_option maxRecDepth 1000000 in
theorem operate3 (p q : Nat) (vw : Value) (m : Option Nat) (S : DS) (w : World) (x0 : Value) (Post : Int → World → Prop) (h : Dk w p q vw m S) (hn : S.n3 + 1 ≤ 1000000)
    (hcall : S.er S.s3 S.l3 = 0 → ∀ W, Dk W p q vw m S.op3 → Mv (· = p) w W → W.heap.size = w.heap.size → Calls Tryz.prog 103 #[x0] W fun e w' => ∃ x, e = .returned (.int .u16 x) ∧ Post x w')
    (hpost : S.er S.s3 S.l3 ≠ 0 → ∀ W, Dk W p q vw m (S.be S.op3) → Mv (· = p) w W → W.heap.size = w.heap.size → Post (S.er S.s3 S.l3 : Int) W) :
    Calls Tryz.prog 37 #[.pointer (some ⟨p, 0, none⟩), .int .i64 3, .func (.func 103) #[] #[x0]] w fun e w' => ∃ x, e = .returned (.int .u16 x) ∧ Post x w' := by
  have HD := hide h
  have HC := hide hcall
  have HP := hide hpost
  have k3 := h.c 3 (.bool S.dk) rfl
  have HG := hide h.good
  clear h hcall hpost
  cases hdk : S.dk
  · rw [hdk] at k3
    have HT := hide (strikes_at p q vw m S S.tr 4 S.ts S.tl w HD.out rfl rfl HG.out.t rfl rfl HG.out.tr rfl)
    cases ht : (tick S.ts S.tl).1
    · rw [ht] at HT
      have HN : Hid (0 ≤ S.n3 ∧ S.n3 + 1 ≤ 1000000) := ⟨HG.out.n3.1, hn⟩
      have hnw : IntKind.i64.wrap (S.n3 + 1) = S.n3 + 1 := by rw [IntKind.wrap_i64]; have := HN.out; omega
      go_enter Tryz.func37, Tryz.ntmps37
      go_wp2_with fail
      refine HT.out.mono ?_
      rintro e w1 ⟨rfl, hd1, hm1, hs1⟩
      have k16 := hd1.c 17 (.int .i64 S.n3) rfl
      have f16 := hd1.f 17
      have HD2 := hide (hd1.fields (S' := S.c3) rfl rfl (HG.out.c3 hn) (w' := (w1.setCell ⟨p, 17, none⟩ (.int .i64 (S.n3 + 1))).drew) (heap_setCell_same w1 p 17 _ 108 _ hd1.blk) (fun k hk => set_other w1 p 17 _ k hk))
      have HM2 : Hid (Mv (· = p) w (w1.setCell ⟨p, 17, none⟩ (.int .i64 (S.n3 + 1))).drew) := hm1.trans' ((mv_set w1 p 17 _).trans' ⟨rfl, rfl, rfl, Nat.le_refl _, fun _ _ _ => rfl⟩)
      have HS2 : Hid ((w1.setCell ⟨p, 17, none⟩ (.int .i64 (S.n3 + 1))).drew.heap.size = w.heap.size) := by simpa [World.setCell, Hid] using hs1
      clear hd1 hm1 hs1
      go_wp2
      go_region
      generalize (w1.setCell ⟨p, 17, none⟩ (.int .i64 (S.n3 + 1))).drew = w2 at HD2 HM2 HS2 ⊢
      clear k16 f16
      have HT2 := hide (strikes_at p q vw m S.c3 S.op3 12 S.s3 S.l3 w2 HD2.out rfl rfl HG.out.f3 rfl rfl (HG.out.op3 hn) rfl)
      cases ht2 : (tick S.s3 S.l3).1
      · rw [ht2] at HT2
        have e1 : Hid (S.er S.s3 S.l3 = 0) := by simp [DS.er, hdk, ht, ht2, Hid]
        have HC2 := hide (HC.out e1.out)
        clear HC HP e1
        go_wp2_with fail
        refine HT2.out.mono ?_
        rintro e w3 ⟨rfl, hd3, hm3, hs3⟩
        have HR := hide (HC2.out w3 hd3 (HM2.out.trans' hm3) (hs3.trans HS2.out))
        clear hd3 hm3 hs3 HC2
        go_wp2_with fail
        refine HR.out.mono ?_
        rintro e w4 ⟨x, rfl, hpost⟩
        have HQ := hide hpost
        clear hpost
        go_wp2
        go_ret
        exact ⟨x, rfl, HQ.out⟩
      · rw [ht2] at HT2
        have e1 : Hid (S.er S.s3 S.l3 = 6) := by simp [DS.er, hdk, ht, ht2, Hid]
        have e2 : Hid (S.be S.op3 = S.op3) := by simp [DS.be, hdk, ht, Hid]
        go_wp2_with fail
        refine HT2.out.mono ?_
        rintro e w3 ⟨rfl, hd3, hm3, hs3⟩
        have HR := hide (HP.out (by rw [e1.out]; omega) w3 (by rw [e2.out]; exact hd3) (HM2.out.trans' hm3) (hs3.trans HS2.out))
        rw [e1.out] at HR
        clear hd3 hm3 hs3 HC HP
        go_wp2
        go_ret
        exact ⟨_, rfl, HR.out⟩
    · rw [ht] at HT
      have e1 : Hid (S.er S.s3 S.l3 = 4) := by simp [DS.er, hdk, ht, Hid]
      have e2 : Hid (S.be S.op3 = S.out) := by simp [DS.be, hdk, ht, Hid]
      go_enter Tryz.func37, Tryz.ntmps37
      go_wp2_with fail
      refine HT.out.mono ?_
      rintro e w1 ⟨rfl, hd1, hm1, hs1⟩
      have k3' := hd1.c 3 (.bool S.dk) rfl
      have f3 := hd1.f 3
      have HR := hide (HP.out (by rw [e1.out]; omega) (w1.setCell ⟨p, 3, none⟩ (.bool true)) (by rw [e2.out]; exact hd1.fields rfl rfl HG.out.out (heap_setCell_same _ p 3 _ 108 _ hd1.blk) (fun k hk => set_other _ _ _ _ _ hk)) (hm1.trans' (mv_set _ _ _ _)) (by simpa [World.setCell] using hs1))
      rw [e1.out] at HR
      clear hd1 hm1 hs1 HC HP HD HG e1 e2 hdk
      go_wp2
      go_ret
      exact ⟨_, rfl, HR.out⟩
  · rw [hdk] at k3
    have e1 : Hid (S.er S.s3 S.l3 = 4) := by simp [DS.er, hdk, Hid]
    have e2 : Hid (S.be S.op3 = S) := by simp [DS.be, hdk, Hid]
    have HR := hide (HP.out (by rw [e1.out]; omega) w (by rw [e2.out]; exact HD.out) (Mv.refl _ _) rfl)
    rw [e1.out] at HR
    clear HC HP HD HG e1 e2 hdk
    go_enter Tryz.func37, Tryz.ntmps37
    go_wp2
    go_ret
    exact ⟨_, rfl, HR.out⟩
end Go.Proofs.YtobokocpapfjbaaGreat
