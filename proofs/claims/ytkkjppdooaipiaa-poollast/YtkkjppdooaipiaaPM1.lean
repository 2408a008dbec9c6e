/- A pool over a disk on which nothing fails. -/
import Derived.Test.YtkkjppdooaipiaaPK
namespace Go.Proofs.Ytkkjppdooaipiaa
open Go.RowKit Go.Maps
set_option linter.unusedVariables false
variable {w w' : World} {p d q e m most : Nat} {S S' : DS} {O O' OO : Nat → Prop} {L L' : List Sh} {el yo el' yo' : Nat → Nat} {A : List Pge}

/-- a disk on which nothing fails, of so many pages, behind at most c operations. -/
structure Calm (S : DS) (pages c : Nat) : Prop where
  dk : S.dk = false
  ts : S.ts = false
  s1 : S.s1 = false
  s2 : S.s2 = false
  s3 : S.s3 = false
  len : S.ls.length = 8 * pages
  ws : S.ws.length ≤ 8 * c
  n1 : S.n1 ≤ c
  n2 : S.n2 ≤ c
  n3 : S.n3 ≤ c
variable {pages c : Nat}
theorem Calm.er (h : Calm S pages c) {s : Bool} {l : Int} (hs : s = false) : S.er s l = 0 := by
  unfold DS.er tick
  simp [h.dk, h.ts, hs]
theorem Calm.op1 (h : Calm S pages c) : Calm S.op1 pages (c + 1) := by
  refine ⟨h.dk, ?_, ?_, h.s2, h.s3, h.len, ?_, ?_, ?_, ?_⟩
  · show (tick S.ts S.tl).2.1 = false; simp [tick, h.ts]
  · show (tick S.s1 S.l1).2.1 = false; simp [tick, h.s1]
  · have := h.ws; show S.ws.length ≤ _; omega
  · have := h.n1; show S.n1 + 1 ≤ _; omega
  · have := h.n2; show S.n2 ≤ _; omega
  · have := h.n3; show S.n3 ≤ _; omega
theorem Calm.wr (h : Calm S pages c) (b : Nat) (zs : List Int) : Calm (S.op2.adds b zs 8) pages (c + 1) := by
  refine ⟨h.dk, ?_, h.s1, ?_, h.s3, h.len, ?_, ?_, ?_, ?_⟩
  · show (tick S.ts S.tl).2.1 = false; simp [tick, h.ts]
  · show (tick S.s2 S.l2).2.1 = false; simp [tick, h.s2]
  · have := h.ws; rw [DS.adds_len]; show S.ws.length + 8 ≤ _; omega
  · have := h.n1; show S.n1 ≤ _; omega
  · have := h.n2; show S.n2 + 1 ≤ _; omega
  · have := h.n3; show S.n3 ≤ _; omega
theorem Calm.sy (h : Calm S pages c) : Calm (S.op3.set yes) pages (c + 1) := by
  refine ⟨h.dk, ?_, h.s1, h.s2, ?_, ?_, ?_, ?_, ?_, ?_⟩
  · show (tick S.ts S.tl).2.1 = false; simp [tick, h.ts]
  · show (tick S.s3 S.l3).2.1 = false; simp [tick, h.s3]
  · show (settled _ _ _ _).length = _; rw [settled_len]; exact h.len
  · show 0 ≤ _; omega
  · have := h.n1; show S.n1 ≤ _; omega
  · have := h.n2; show S.n2 ≤ _; omega
  · have := h.n3; show S.n3 + 1 ≤ _; omega
theorem Calm.mono (h : Calm S pages c) {c' : Nat} (hc : c ≤ c') : Calm S pages c' := ⟨h.dk, h.ts, h.s1, h.s2, h.s3, h.len, by have := h.ws; omega, by have := h.n1; omega, by have := h.n2; omega, by have := h.n3; omega⟩
theorem Calm.new (pages : Nat) : Calm (DS.new (8 * pages)) pages 0 := ⟨rfl, rfl, rfl, rfl, rfl, by simp [DS.new], by simp [DS.new], by simp [DS.new], by simp [DS.new], by simp [DS.new]⟩
theorem rd_op1 (S : DS) (b k : Nat) : rd S.op1 b k = rd S b k := rd_same rfl rfl b k
theorem rd_wr_same (S : DS) (n : Nat) (zs : List Int) (h : zs.length = 1024) : rd (S.op2.adds (8 * n) zs 8) (8 * n) 8 = zs := rd_adds_same _ _ _ h
theorem rd_wr_other (S : DS) {n n' : Nat} (zs : List Int) (h : n ≠ n') : rd (S.op2.adds (8 * n) zs 8) (8 * n') 8 = rd S (8 * n') 8 := (rd_adds_other _ _ _ _ h).trans (rd_same rfl rfl _ _)

theorem cwrite (n k : Nat) (NI KI : Int) (hNI : NI = (n : Int)) (hKI : KI = (k : Int)) (a : Option Addr) (len cap : Nat) (pl : List Int) (h : Pl w p d q S most A OO) (hcm : Calm S pages c) (hc : c ≤ 10000) (hpg : pages ≤ 10000) (hn : n < pages) (h1 : 1 ≤ k) (h4 : k ≤ 4) (hlen : len ≤ 1008) (hl : pl.length = len) (hna : a = none → len = 0 ∧ cap = 0) (hr : Row w a pl) (h8 : Byts pl) (hap : pl ≠ [] → ∀ ad, a = some ad → ¬ OO ad.block) :
    Calls Try.prog 12 #[.pointer (some ⟨p, 0, none⟩), .int .u32 NI, .int .u8 KI, .slice a len cap] w fun ed w' => ed = .returned (.int .u16 0) ∧ ∃ OO', Pl w' p d q (S.op2.adds (8 * n) (Pg.pg k n pl) 8) most (inn most (wo A n) ⟨n, k, pl⟩) OO' ∧ Go1 OO w OO' w' := by
  subst hNI hKI
  have e0 := hcm.er (l := S.l2) hcm.s2
  have hll := hcm.len
  have hw := hcm.ws
  have hn2 := hcm.n2
  refine (write_disk n k a len cap pl (by omega) h h1 h4 hlen hl hna hr h8 hap (by rw [hll]; omega) (by rw [hll]; omega) (by omega) (by omega)).mono ?_
  rintro ed w' ⟨rfl, OO', hp, hg⟩
  rw [e0, if_pos rfl, DS.wr, if_pos e0] at hp
  exact ⟨by rw [e0]; rfl, OO', hp, hg⟩
theorem cread_hand (n : Nat) (NI : Int) (hNI : NI = (n : Int)) (x : Pge) (hx : x ∈ A) (hxn : x.n = n) (h : Pl w p d q S most A OO) (hcm : Calm S pages c) (hn : n < pages) :
    Calls Try.prog 10 #[.pointer (some ⟨p, 0, none⟩), .int .u32 NI] w fun ed w' => ∃ v OO', ed = .returned (.tuple #[.int .u8 (x.k : Int), v, .int .u16 0]) ∧ Fresh w w' OO' v x.pl ∧ Pl w' p d q S most (wo A n ++ [x]) OO' ∧ Go1 OO w OO' w' := by
  subst hNI hxn
  exact read_hand x (h.mo.2.2.2.2 x hx).1 h (by rw [hcm.len]; omega) hx
theorem cread_disk (n k : Nat) (NI : Int) (hNI : NI = (n : Int)) (pl : List Int) (hx : n ∉ A.map Pge.n) (h : Pl w p d q S most A OO) (hcm : Calm S pages c) (hc : c ≤ 10000) (hpg : pages ≤ 10000) (hn : n < pages) (ho : Pg.opn n (rd S (8 * n) 8) = some (k, pl)) :
    Calls Try.prog 10 #[.pointer (some ⟨p, 0, none⟩), .int .u32 NI] w fun ed w' => ∃ v OO', ed = .returned (.tuple #[.int .u8 (k : Int), v, .int .u16 0]) ∧ Fresh w w' OO' v pl ∧ Pl w' p d q S.op1 most (inn most A ⟨n, k, pl⟩) OO' ∧ Go1 OO w OO' w' := by
  subst hNI
  have hn1 := hcm.n1
  refine (read_disk n (by omega) h (by rw [hcm.len]; omega) hx (by omega) (hcm.er hcm.s1)).mono ?_
  rintro ed w' ⟨-, hy⟩
  exact hy k pl ho
theorem cread_form (n : Nat) (NI : Int) (hNI : NI = (n : Int)) (hx : n ∉ A.map Pge.n) (h : Pl w p d q S most A OO) (hcm : Calm S pages c) (hc : c ≤ 10000) (hpg : pages ≤ 10000) (hn : n < pages) (ho : Pg.opn n (rd S (8 * n) 8) = none) :
    Calls Try.prog 10 #[.pointer (some ⟨p, 0, none⟩), .int .u32 NI] w fun ed w' => ∃ OO', ed = .returned (.tuple #[.int .u8 0, .slice none 0 0, .int .u16 100]) ∧ Pl w' p d q S.op1 most A OO' ∧ Go1 OO w OO' w' := by
  subst hNI
  have hn1 := hcm.n1
  refine (read_disk n (by omega) h (by rw [hcm.len]; omega) hx (by omega) (hcm.er hcm.s1)).mono ?_
  rintro ed w' ⟨hno, -⟩
  exact hno ho
theorem pcounts (h : Pl w p d q S most A OO) : Calls Try.prog 16 #[.pointer (some ⟨d, 0, none⟩)] w fun ed w' => ed = .returned (.agg #[.int .i64 S.n1, .int .i64 S.n2, .int .i64 S.n3]) ∧ Below w.heap.size w w' := by
  obtain ⟨O, e, m, L, el, yo, h1, -, -⟩ := h
  exact counts_any d q O S w h1.dk
theorem phas_at (n : Nat) (NI : Int) (hNI : NI = (n : Int)) (hn : n < 4294967296) (h : Pl w p d q S most A OO) (b : Bool) (hb : decide (n ∈ A.map Pge.n) = b) :
    Calls Try.prog 17 #[.pointer (some ⟨p, 0, none⟩), .int .u32 NI] w fun ed w' => ed = .returned (.bool b) ∧ Below w.heap.size w w' := by
  subst hNI hb
  exact phas_any n hn h
theorem plen_at (n : Nat) (NI : Int) (hNI : NI = (n : Int)) (h : Pl w p d q S most A OO) (hn : A.length = n) :
    Calls Try.prog 15 #[.pointer (some ⟨p, 0, none⟩)] w fun ed w' => ed = .returned (.int .i64 NI) ∧ Below w.heap.size w w' := by
  subst hNI hn
  exact plen_any h
/-- what a call made, and stays. -/
theorem Fresh.go {w1 w2 : World} {P P' : Nat → Prop} {v : Value} {zs : List Int} (h : Fresh w w1 P v zs) (hg : Go1 P w1 P' w2) : Fresh w w2 P' v zs :=
  ⟨h.1.of_block fun k hk => hg.mv.block k (h.1.lt hk) (h.2 k hk).2, fun g hv => ⟨(h.2 g hv).1, fun hx => (hg.own g hx).elim (h.2 g hv).2 (fun hl => by have := h.1.lt hv; omega)⟩⟩
theorem Fresh.on {w1 w2 : World} {P : Nat → Prop} {v : Value} {zs : List Int} (h : Fresh w w1 P v zs) (hb : Below w1.heap.size w1 w2) : Fresh w w2 P v zs := h.go (Go1.of_below hb)
theorem text_own {v : Value} {zs : List Int} (a : Option Addr) (n cap : Nat) (hv : v = .slice a n cap) (h : Own w v zs) (h8 : Byts zs) : (convert 34 9 (.slice a n cap)).run Try.prog w = .ok (.string (bk zs)) w := by
  subst hv
  obtain ⟨a', c', e, h1, h2, h3, h4, _⟩ := h.shape
  cases e
  exact run_text w a zs.length cap zs rfl h3 h4 h8
end Go.Proofs.Ytkkjppdooaipiaa
/- The chapter's example comes out as it has it. -/
namespace Go.Proofs.Ytkkjppdooaipiaa
open Go.RowKit Go.Maps
set_option linter.unusedVariables false

/-- bytes that were laid down as a constant, in a block of their own. -/
theorem row_const {w : World} (x : Int) (f : Nat × Nat) : Row (w.alloc (.cells #[.int .u8 x] 5 f)) (some ⟨w.heap.size, 0, none⟩) [x] := row_new w [x] _ f rfl
theorem new_not {w : World} {p d q most : Nat} {S : DS} {A : List Pge} {OO : Nat → Prop} {g : Nat} (h : Pl w p d q S most A OO) (hg : w.heap.size ≤ g) : ∀ ad, some (⟨g, 0, none⟩ : Addr) = some ad → ¬ OO ad.block := fun ad had hx => by
  cases had
  have := h.lt _ hx
  simp only at this
  omega
theorem b1 (x : Int) (h : 0 ≤ x ∧ x ≤ 255) : Byts [x] := fun c hc => by simp at hc; rw [hc]; exact h
theorem kwrite {w : World} {p d q most pages c : Nat} {S : DS} {A : List Pge} {OO : Nat → Prop} (n : Nat) (NI : Int) (hNI : NI = (n : Int)) (x : Int) (hx : 0 ≤ x ∧ x ≤ 255) (f : Nat × Nat) (h : Pl w p d q S most A OO) (hcm : Calm S pages c) (hc : c ≤ 10000) (hpg : pages ≤ 10000) (hn : n < pages) :
    Calls Try.prog 12 #[.pointer (some ⟨p, 0, none⟩), .int .u32 NI, .int .u8 1, .slice (some ⟨w.heap.size, 0, none⟩) 1 1] (w.alloc (.cells #[.int .u8 x] 5 f)) fun ed w' => ed = .returned (.int .u16 0) ∧ ∃ OO', Pl w' p d q (S.op2.adds (8 * n) (Pg.pg 1 n [x]) 8) most (inn most (wo A n) ⟨n, 1, [x]⟩) OO' ∧ Go1 OO w OO' w' := by
  refine (cwrite n 1 NI 1 hNI rfl (some ⟨w.heap.size, 0, none⟩) 1 1 [x] (h.below (below_alloc w _)) hcm hc hpg hn (by omega) (by omega) (by omega) rfl (by intro h; cases h) (row_const x f) (b1 x hx) (fun _ => new_not h (Nat.le_refl _))).mono ?_
  rintro ed w' ⟨rfl, OO', hp, hg⟩
  exact ⟨rfl, OO', hp, (Go1.of_below (below_alloc w _)).trans hg⟩
theorem fieldC (a b c : Int) (W : World) : (Instr.field 48 (.agg #[.int .i64 a, .int .i64 b, .int .i64 c]) 0).run Try.prog W = .ok (.int .i64 a) W := by kernel_rfl
def k1 : DS := (DS.new (8 * 9)).op2.adds (8 * 2) (Pg.pg 1 2 [97]) 8
def k2 : DS := k1.op2.adds (8 * 3) (Pg.pg 1 3 [98]) 8
def k3 : DS := k2.op2.adds (8 * 4) (Pg.pg 1 4 [99]) 8
theorem k1c : Calm k1 9 1 := (Calm.new 9).wr _ _
theorem k2c : Calm k2 9 2 := k1c.wr _ _
theorem k3c : Calm k3 9 3 := k2c.wr _ _
theorem k3r : Pg.opn 3 (rd k3 (8 * 3) 8) = some (1, [98]) := by
  rw [k3, rd_wr_other _ _ (by omega), k2, rd_wr_same _ _ _ (Pg.pg_length 1 3 [98] (by simp))]
  exact Pg.opn_pg 1 3 [98] (by omega) (by omega) (by simp)
set_option maxHeartbeats 6400000 in
set_option maxRecDepth 1000000 in
theorem known_any (w : World) : Calls Try.prog 6 #[] w fun ed w' => ed = .returned (.bool true) ∧ Below w.heap.size w w' := by
  have kc := fun (w : World) (C : Array Value) (n c : Nat) => Lib.run_convert_bytes_const (P := Try.prog) w 34 5 C n c Try.underlying34 Try.underlying5
  have hfc := fieldC
  have Hab : Hid (bk [97] = ⟨#[97]⟩) := hide rfl
  have Hbb : Hid (bk [98] = ⟨#[98]⟩) := hide rfl
  go_enter Try.func6, Try.ntmps6
  go_wp2_with fail
  refine (new_at 9 9 w rfl (by omega) (by omega)).mono ?_
  rintro ed w1 ⟨O, d, q, rfl, hd, hf⟩
  have HF1 := hide hf
  have HD1 := hide hd
  clear hd hf
  go_wp2_with fail
  refine (pnew_any 2 2 rfl w1 HD1.out (by omega) (by omega)).mono ?_
  rintro ed w2 ⟨p, OO2, rfl, hp2, hg2⟩
  have HF2 := hide (HF1.out.go hg2)
  have HP2 := hide hp2
  clear hp2 hg2
  go_wp2_with fail
  refine (kwrite 2 2 rfl 97 (by omega) _ HP2.out (Calm.new 9) (by omega) (by omega) (by omega)).mono ?_
  rintro ed w3 ⟨rfl, OO3, hp3, hg3⟩
  have HF3 := hide (HF2.out.go hg3)
  have HP3 : Hid (Pl w3 p d q k1 2 [⟨2, 1, [97]⟩] OO3) := hp3
  clear hp3 hg3
  go_wp2_with fail
  refine (kwrite 3 3 rfl 98 (by omega) _ HP3.out k1c (by omega) (by omega) (by omega)).mono ?_
  rintro ed w4 ⟨rfl, OO4, hp4, hg4⟩
  have HF4 := hide (HF3.out.go hg4)
  have HP4 : Hid (Pl w4 p d q k2 2 [⟨2, 1, [97]⟩, ⟨3, 1, [98]⟩] OO4) := hp4
  clear hp4 hg4
  go_wp2_with fail
  refine (cread_hand 2 2 rfl ⟨2, 1, [97]⟩ (by simp) rfl HP4.out k2c (by omega)).mono ?_
  rintro ed w5 ⟨v5, OO5, rfl, hf5, hp5, hg5⟩
  have HF5 := hide (HF4.out.go hg5)
  have HP5 : Hid (Pl w5 p d q k2 2 [⟨3, 1, [98]⟩, ⟨2, 1, [97]⟩] OO5) := hp5
  obtain ⟨a5, n5, c5, rfl, -⟩ := hf5.1.shape2
  have HV5 := hide hf5
  clear hp5 hg5 hf5
  go_wp2_with fail
  refine (pcounts HP5.out).mono ?_
  rintro ed w6 ⟨rfl, hb6⟩
  have HF6 := hide (HF5.out.on hb6)
  have HP6 := hide (HP5.out.below hb6)
  have HV6 := hide (HV5.out.on hb6)
  have en1 : k2.n1 = 0 := rfl
  rw [en1]
  clear hb6 en1
  go_wp2_with fail
  refine (kwrite 4 4 rfl 99 (by omega) _ HP6.out k2c (by omega) (by omega) (by omega)).mono ?_
  rintro ed w7 ⟨rfl, OO7, hp7, hg7⟩
  have HF7 := hide (HF6.out.go hg7)
  have HP7 : Hid (Pl w7 p d q k3 2 [⟨2, 1, [97]⟩, ⟨4, 1, [99]⟩] OO7) := hp7
  have HV7 := hide (HV6.out.go hg7)
  clear hp7 hg7
  go_wp2_with fail
  refine (phas_at 3 3 rfl (by omega) HP7.out false (by decide)).mono ?_
  rintro ed w8 ⟨rfl, hb8⟩
  have HF8 := hide (HF7.out.on hb8)
  have HP8 := hide (HP7.out.below hb8)
  have HV8 := hide (HV7.out.on hb8)
  clear hb8
  go_wp2_with fail
  refine (cread_disk 3 1 3 rfl [98] (by decide) HP8.out k3c (by omega) (by omega) (by omega) k3r).mono ?_
  rintro ed w9 ⟨v9, OO9, rfl, hf9, hp9, hg9⟩
  have HF9 := hide (HF8.out.go hg9)
  have HP9 : Hid (Pl w9 p d q k3.op1 2 [⟨4, 1, [99]⟩, ⟨3, 1, [98]⟩] OO9) := hp9
  obtain ⟨a9, n9, c9, rfl, -⟩ := hf9.1.shape2
  have HV9 := hide (HV8.out.go hg9)
  have HU9 := hide hf9
  clear hp9 hg9 hf9
  have t1 := text_own a5 n5 c5 rfl HV9.out.1 (b1 97 (by omega))
  have t2 := text_own a9 n9 c9 rfl HU9.out.1 (b1 98 (by omega))
  rw [Hab.out] at t1
  rw [Hbb.out] at t2
  go_wp2_with fail
  refine (phas_at 2 2 rfl (by omega) HP9.out false (by decide)).mono ?_
  rintro ed w10 ⟨rfl, hb10⟩
  have HF10 := hide (HF9.out.on hb10)
  have HP10 := hide (HP9.out.below hb10)
  clear hb10 t1 t2
  go_wp2_with fail
  refine (plen_at 2 2 rfl HP10.out rfl).mono ?_
  rintro ed w11 ⟨rfl, hb11⟩
  have HF11 := hide (HF10.out.on hb11)
  have HP11 := hide (HP10.out.below hb11)
  clear hb11
  go_wp2_with fail
  refine (pcounts HP11.out).mono ?_
  rintro ed w12 ⟨rfl, hb12⟩
  have HF12 := hide (HF11.out.on hb12)
  have en1 : k3.op1.n1 = 1 := rfl
  rw [en1]
  clear hb12 en1
  go_wp2
  go_ret
  exact ⟨rfl, HF12.out.below⟩
end Go.Proofs.Ytkkjppdooaipiaa
