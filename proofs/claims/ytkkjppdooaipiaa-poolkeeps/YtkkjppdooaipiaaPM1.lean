/- The chapter's example comes out as it has it. -/
import Derived.Test.YtkkjppdooaipiaaPL
namespace Go.Proofs.Ytkkjppdooaipiaa
open Go.RowKit Go.Maps
set_option linter.unusedVariables false

/-- bytes that were laid down as a constant, in a block of their own. -/
theorem row_const {w : World} (x : Int) (f : Nat × Nat) : Row (w.alloc (.cells #[.int .u8 x] 5 f)) (some ⟨w.heap.size, 0, none⟩) [x] := row_new w [x] _ f rfl
theorem new_not {w : World} {p d q most : Nat} {S : DS} {A : List Pge} {OO : Nat → Prop} {g : Nat} (h : Pl w p d q S most A OO) (hg : w.heap.size ≤ g) : ∀ ad, some (⟨g, 0, none⟩ : Addr) = some ad → ¬ OO ad.block := fun ad had hx => by
  cases had
  have := h.lt _ hx
  simp only at this
  omega
theorem b1 (x : Int) (h : 0 ≤ x ∧ x ≤ 255) : Byts [x] := fun c hc => by simp at hc; rw [hc]; exact h
theorem kwrite {w : World} {p d q most pages c : Nat} {S : DS} {A : List Pge} {OO : Nat → Prop} (n : Nat) (NI : Int) (hNI : NI = (n : Int)) (x : Int) (hx : 0 ≤ x ∧ x ≤ 255) (f : Nat × Nat) (h : Pl w p d q S most A OO) (hcm : Calm S pages c) (hc : c ≤ 10000) (hpg : pages ≤ 10000) (hn : n < pages) :
    Calls Try.prog 12 #[.pointer (some ⟨p, 0, none⟩), .int .u32 NI, .int .u8 1, .slice (some ⟨w.heap.size, 0, none⟩) 1 1] (w.alloc (.cells #[.int .u8 x] 5 f)) fun ed w' => ed = .returned (.int .u16 0) ∧ ∃ OO', Pl w' p d q (S.op2.adds (8 * n) (Pg.pg 1 n [x]) 8) most (inn most (wo A n) ⟨n, 1, [x]⟩) OO' ∧ Go1 OO w OO' w' := by
  refine (cwrite n 1 NI 1 hNI rfl (some ⟨w.heap.size, 0, none⟩) 1 1 [x] (h.below (below_alloc w _)) hcm hc hpg hn (by omega) (by omega) (by omega) rfl (by intro h; cases h) (row_const x f) (b1 x hx) (new_not h (Nat.le_refl _))).mono ?_
  rintro ed w' ⟨rfl, OO', hp, hg⟩
  exact ⟨rfl, OO', hp, (Go1.of_below (below_alloc w _)).trans hg⟩
theorem fieldC (a b c : Int) (W : World) : (Instr.field 48 (.agg #[.int .i64 a, .int .i64 b, .int .i64 c]) 0).run Try.prog W = .ok (.int .i64 a) W := by kernel_rfl
def k1 : DS := (DS.new (8 * 9)).op2.adds (8 * 2) (Pg.pg 1 2 [97]) 8
def k2 : DS := k1.op2.adds (8 * 3) (Pg.pg 1 3 [98]) 8
def k3 : DS := k2.op2.adds (8 * 4) (Pg.pg 1 4 [99]) 8
theorem k1c : Calm k1 9 1 := (Calm.new 9).wr _ _
theorem k2c : Calm k2 9 2 := k1c.wr _ _
theorem k3c : Calm k3 9 3 := k2c.wr _ _
theorem k3r : Pg.opn 3 (rd k3 (8 * 3) 8) = some (1, [98]) := by
  rw [k3, rd_wr_other _ _ (by omega), k2, rd_wr_same _ _ _ (Pg.pg_length 1 3 [98] (by simp))]
  exact Pg.opn_pg 1 3 [98] (by omega) (by omega) (by simp)
set_option maxHeartbeats 6400000 in
set_option maxRecDepth 1000000 in
theorem known_any (w : World) : Calls Try.prog 6 #[] w fun ed w' => ed = .returned (.bool true) ∧ Below w.heap.size w w' := by
  have kc := fun (w : World) (C : Array Value) (n c : Nat) => Lib.run_convert_bytes_const (P := Try.prog) w 34 5 C n c Try.underlying34 Try.underlying5
  have hfc := fieldC
  have Hab : Hid (bk [97] = ⟨#[97]⟩) := hide rfl
  have Hbb : Hid (bk [98] = ⟨#[98]⟩) := hide rfl
  go_enter Try.func6, Try.ntmps6
  go_wp2_with fail
  refine (new_at 9 9 w rfl (by omega) (by omega)).mono ?_
  rintro ed w1 ⟨O, d, q, rfl, hd, hf⟩
  have HF1 := hide hf
  have HD1 := hide hd
  clear hd hf
  go_wp2_with fail
  refine (pnew_any 2 2 rfl w1 HD1.out (by omega) (by omega)).mono ?_
  rintro ed w2 ⟨p, OO2, rfl, hp2, hg2⟩
  have HF2 := hide (HF1.out.go hg2)
  have HP2 := hide hp2
  clear hp2 hg2
  go_wp2_with fail
  refine (kwrite 2 2 rfl 97 (by omega) _ HP2.out (Calm.new 9) (by omega) (by omega) (by omega)).mono ?_
  rintro ed w3 ⟨rfl, OO3, hp3, hg3⟩
  have HF3 := hide (HF2.out.go hg3)
  have HP3 : Hid (Pl w3 p d q k1 2 [⟨2, 1, [97]⟩] OO3) := hp3
  clear hp3 hg3
  go_wp2_with fail
  refine (kwrite 3 3 rfl 98 (by omega) _ HP3.out k1c (by omega) (by omega) (by omega)).mono ?_
  rintro ed w4 ⟨rfl, OO4, hp4, hg4⟩
  have HF4 := hide (HF3.out.go hg4)
  have HP4 : Hid (Pl w4 p d q k2 2 [⟨2, 1, [97]⟩, ⟨3, 1, [98]⟩] OO4) := hp4
  clear hp4 hg4
  go_wp2_with fail
  refine (cread_hand 2 2 rfl ⟨2, 1, [97]⟩ (by simp) rfl HP4.out k2c (by omega)).mono ?_
  rintro ed w5 ⟨v5, OO5, rfl, hf5, hp5, hg5⟩
  have HF5 := hide (HF4.out.go hg5)
  have HP5 : Hid (Pl w5 p d q k2 2 [⟨3, 1, [98]⟩, ⟨2, 1, [97]⟩] OO5) := hp5
  obtain ⟨a5, n5, c5, rfl, -⟩ := hf5.1.shape2
  have HV5 := hide hf5
  clear hp5 hg5 hf5
  go_wp2_with fail
  refine (pcounts HP5.out).mono ?_
  rintro ed w6 ⟨rfl, hb6⟩
  have HF6 := hide (HF5.out.on hb6)
  have HP6 := hide (HP5.out.below hb6)
  have HV6 := hide (HV5.out.on hb6)
  have en1 : k2.n1 = 0 := rfl
  rw [en1]
  clear hb6 en1
  go_wp2_with fail
  refine (kwrite 4 4 rfl 99 (by omega) _ HP6.out k2c (by omega) (by omega) (by omega)).mono ?_
  rintro ed w7 ⟨rfl, OO7, hp7, hg7⟩
  have HF7 := hide (HF6.out.go hg7)
  have HP7 : Hid (Pl w7 p d q k3 2 [⟨2, 1, [97]⟩, ⟨4, 1, [99]⟩] OO7) := hp7
  have HV7 := hide (HV6.out.go hg7)
  clear hp7 hg7
  go_wp2_with fail
  refine (phas_at 3 3 rfl (by omega) HP7.out false (by decide)).mono ?_
  rintro ed w8 ⟨rfl, hb8⟩
  have HF8 := hide (HF7.out.on hb8)
  have HP8 := hide (HP7.out.below hb8)
  have HV8 := hide (HV7.out.on hb8)
  clear hb8
  go_wp2_with fail
  refine (cread_disk 3 1 3 rfl [98] (by decide) HP8.out k3c (by omega) (by omega) (by omega) k3r).mono ?_
  rintro ed w9 ⟨v9, OO9, rfl, hf9, hp9, hg9⟩
  have HF9 := hide (HF8.out.go hg9)
  have HP9 : Hid (Pl w9 p d q k3.op1 2 [⟨4, 1, [99]⟩, ⟨3, 1, [98]⟩] OO9) := hp9
  obtain ⟨a9, n9, c9, rfl, -⟩ := hf9.1.shape2
  have HV9 := hide (HV8.out.go hg9)
  have HU9 := hide hf9
  clear hp9 hg9 hf9
  have t1 := text_own a5 n5 c5 rfl HV9.out.1 (b1 97 (by omega))
  have t2 := text_own a9 n9 c9 rfl HU9.out.1 (b1 98 (by omega))
  rw [Hab.out] at t1
  rw [Hbb.out] at t2
  go_wp2_with fail
  refine (phas_at 2 2 rfl (by omega) HP9.out false (by decide)).mono ?_
  rintro ed w10 ⟨rfl, hb10⟩
  have HF10 := hide (HF9.out.on hb10)
  have HP10 := hide (HP9.out.below hb10)
  clear hb10 t1 t2
  go_wp2_with fail
  refine (plen_at 2 2 rfl HP10.out rfl).mono ?_
  rintro ed w11 ⟨rfl, hb11⟩
  have HF11 := hide (HF10.out.on hb11)
  have HP11 := hide (HP10.out.below hb11)
  clear hb11
  go_wp2_with fail
  refine (pcounts HP11.out).mono ?_
  rintro ed w12 ⟨rfl, hb12⟩
  have HF12 := hide (HF11.out.on hb12)
  have en1 : k3.op1.n1 = 1 := rfl
  rw [en1]
  clear hb12 en1
  go_wp2
  go_ret
  exact ⟨rfl, HF12.out.below⟩
end Go.Proofs.Ytkkjppdooaipiaa
