/- A pool over a disk on which nothing fails. -/
import Derived.Test.YtkkjppdooaipiaaPK
namespace Go.Proofs.Ytkkjppdooaipiaa
open Go.RowKit Go.Maps
set_option linter.unusedVariables false
variable {w w' : World} {p d q e m most : Nat} {S S' : DS} {O O' OO : Nat → Prop} {L L' : List Sh} {el yo el' yo' : Nat → Nat} {A : List Pge}

/-- a disk on which nothing fails, of so many pages, behind at most c operations. -/
structure Calm (S : DS) (pages c : Nat) : Prop where
  dk : S.dk = false
  ts : S.ts = false
  s1 : S.s1 = false
  s2 : S.s2 = false
  s3 : S.s3 = false
  len : S.ls.length = 8 * pages
  ws : S.ws.length ≤ 8 * c
  n1 : S.n1 ≤ c
  n2 : S.n2 ≤ c
  n3 : S.n3 ≤ c
variable {pages c : Nat}
theorem Calm.er (h : Calm S pages c) {s : Bool} {l : Int} (hs : s = false) : S.er s l = 0 := by
  unfold DS.er tick
  simp [h.dk, h.ts, hs]
theorem Calm.op1 (h : Calm S pages c) : Calm S.op1 pages (c + 1) := by
  refine ⟨h.dk, ?_, ?_, h.s2, h.s3, h.len, ?_, ?_, ?_, ?_⟩
  · show (tick S.ts S.tl).2.1 = false; simp [tick, h.ts]
  · show (tick S.s1 S.l1).2.1 = false; simp [tick, h.s1]
  · have := h.ws; show S.ws.length ≤ _; omega
  · have := h.n1; show S.n1 + 1 ≤ _; omega
  · have := h.n2; show S.n2 ≤ _; omega
  · have := h.n3; show S.n3 ≤ _; omega
theorem Calm.wr (h : Calm S pages c) (b : Nat) (zs : List Int) : Calm (S.op2.adds b zs 8) pages (c + 1) := by
  refine ⟨h.dk, ?_, h.s1, ?_, h.s3, h.len, ?_, ?_, ?_, ?_⟩
  · show (tick S.ts S.tl).2.1 = false; simp [tick, h.ts]
  · show (tick S.s2 S.l2).2.1 = false; simp [tick, h.s2]
  · have := h.ws; rw [DS.adds_len]; show S.ws.length + 8 ≤ _; omega
  · have := h.n1; show S.n1 ≤ _; omega
  · have := h.n2; show S.n2 + 1 ≤ _; omega
  · have := h.n3; show S.n3 ≤ _; omega
theorem Calm.sy (h : Calm S pages c) : Calm (S.op3.set yes) pages (c + 1) := by
  refine ⟨h.dk, ?_, h.s1, h.s2, ?_, ?_, ?_, ?_, ?_, ?_⟩
  · show (tick S.ts S.tl).2.1 = false; simp [tick, h.ts]
  · show (tick S.s3 S.l3).2.1 = false; simp [tick, h.s3]
  · show (settled _ _ _ _).length = _; rw [settled_len]; exact h.len
  · show 0 ≤ _; omega
  · have := h.n1; show S.n1 ≤ _; omega
  · have := h.n2; show S.n2 ≤ _; omega
  · have := h.n3; show S.n3 + 1 ≤ _; omega
theorem Calm.mono (h : Calm S pages c) {c' : Nat} (hc : c ≤ c') : Calm S pages c' := ⟨h.dk, h.ts, h.s1, h.s2, h.s3, h.len, by have := h.ws; omega, by have := h.n1; omega, by have := h.n2; omega, by have := h.n3; omega⟩
theorem Calm.new (pages : Nat) : Calm (DS.new (8 * pages)) pages 0 := ⟨rfl, rfl, rfl, rfl, rfl, by simp [DS.new], by simp [DS.new], by simp [DS.new], by simp [DS.new], by simp [DS.new]⟩
theorem rd_op1 (S : DS) (b k : Nat) : rd S.op1 b k = rd S b k := rd_same rfl rfl b k
theorem rd_wr_same (S : DS) (n : Nat) (zs : List Int) (h : zs.length = 1024) : rd (S.op2.adds (8 * n) zs 8) (8 * n) 8 = zs := rd_adds_same _ _ _ h
theorem rd_wr_other (S : DS) {n n' : Nat} (zs : List Int) (h : n ≠ n') : rd (S.op2.adds (8 * n) zs 8) (8 * n') 8 = rd S (8 * n') 8 := (rd_adds_other _ _ _ _ h).trans (rd_same rfl rfl _ _)

theorem cwrite (n k : Nat) (NI KI : Int) (hNI : NI = (n : Int)) (hKI : KI = (k : Int)) (a : Option Addr) (len cap : Nat) (pl : List Int) (h : Pl w p d q S most A OO) (hcm : Calm S pages c) (hc : c ≤ 10000) (hpg : pages ≤ 10000) (hn : n < pages) (h1 : 1 ≤ k) (h4 : k ≤ 4) (hlen : len ≤ 1008) (hl : pl.length = len) (hna : a = none → len = 0 ∧ cap = 0) (hr : Row w a pl) (h8 : Byts pl) (hap : ∀ ad, a = some ad → ¬ OO ad.block) :
    Calls Try.prog 12 #[.pointer (some ⟨p, 0, none⟩), .int .u32 NI, .int .u8 KI, .slice a len cap] w fun ed w' => ed = .returned (.int .u16 0) ∧ ∃ OO', Pl w' p d q (S.op2.adds (8 * n) (Pg.pg k n pl) 8) most (inn most (wo A n) ⟨n, k, pl⟩) OO' ∧ Go1 OO w OO' w' := by
  subst hNI hKI
  have e0 := hcm.er (l := S.l2) hcm.s2
  have hll := hcm.len
  have hw := hcm.ws
  have hn2 := hcm.n2
  refine (write_disk n k a len cap pl (by omega) h h1 h4 hlen hl hna hr h8 hap (by rw [hll]; omega) (by rw [hll]; omega) (by omega) (by omega)).mono ?_
  rintro ed w' ⟨rfl, OO', hp, hg⟩
  rw [e0, if_pos rfl, DS.wr, if_pos e0] at hp
  exact ⟨by rw [e0]; rfl, OO', hp, hg⟩
theorem cread_hand (n : Nat) (NI : Int) (hNI : NI = (n : Int)) (x : Pge) (hx : x ∈ A) (hxn : x.n = n) (h : Pl w p d q S most A OO) (hcm : Calm S pages c) (hn : n < pages) :
    Calls Try.prog 10 #[.pointer (some ⟨p, 0, none⟩), .int .u32 NI] w fun ed w' => ∃ v OO', ed = .returned (.tuple #[.int .u8 (x.k : Int), v, .int .u16 0]) ∧ Fresh w w' OO' v x.pl ∧ Pl w' p d q S most (wo A n ++ [x]) OO' ∧ Go1 OO w OO' w' := by
  subst hNI hxn
  exact read_hand x (h.mo.2.2.2.2 x hx).1 h (by rw [hcm.len]; omega) hx
theorem cread_disk (n k : Nat) (NI : Int) (hNI : NI = (n : Int)) (pl : List Int) (hx : n ∉ A.map Pge.n) (h : Pl w p d q S most A OO) (hcm : Calm S pages c) (hc : c ≤ 10000) (hpg : pages ≤ 10000) (hn : n < pages) (ho : Pg.opn n (rd S (8 * n) 8) = some (k, pl)) :
    Calls Try.prog 10 #[.pointer (some ⟨p, 0, none⟩), .int .u32 NI] w fun ed w' => ∃ v OO', ed = .returned (.tuple #[.int .u8 (k : Int), v, .int .u16 0]) ∧ Fresh w w' OO' v pl ∧ Pl w' p d q S.op1 most (inn most A ⟨n, k, pl⟩) OO' ∧ Go1 OO w OO' w' := by
  subst hNI
  have hn1 := hcm.n1
  refine (read_disk n (by omega) h (by rw [hcm.len]; omega) hx (by omega) (hcm.er hcm.s1)).mono ?_
  rintro ed w' ⟨-, hy⟩
  exact hy k pl ho
theorem cread_form (n : Nat) (NI : Int) (hNI : NI = (n : Int)) (hx : n ∉ A.map Pge.n) (h : Pl w p d q S most A OO) (hcm : Calm S pages c) (hc : c ≤ 10000) (hpg : pages ≤ 10000) (hn : n < pages) (ho : Pg.opn n (rd S (8 * n) 8) = none) :
    Calls Try.prog 10 #[.pointer (some ⟨p, 0, none⟩), .int .u32 NI] w fun ed w' => ∃ OO', ed = .returned (.tuple #[.int .u8 0, .slice none 0 0, .int .u16 100]) ∧ Pl w' p d q S.op1 most A OO' ∧ Go1 OO w OO' w' := by
  subst hNI
  have hn1 := hcm.n1
  refine (read_disk n (by omega) h (by rw [hcm.len]; omega) hx (by omega) (hcm.er hcm.s1)).mono ?_
  rintro ed w' ⟨hno, -⟩
  exact hno ho
theorem pcounts (h : Pl w p d q S most A OO) : Calls Try.prog 16 #[.pointer (some ⟨d, 0, none⟩)] w fun ed w' => ed = .returned (.agg #[.int .i64 S.n1, .int .i64 S.n2, .int .i64 S.n3]) ∧ Below w.heap.size w w' := by
  obtain ⟨O, e, m, L, el, yo, h1, -, -⟩ := h
  exact counts_any d q O S w h1.dk
theorem phas_at (n : Nat) (NI : Int) (hNI : NI = (n : Int)) (hn : n < 4294967296) (h : Pl w p d q S most A OO) (b : Bool) (hb : decide (n ∈ A.map Pge.n) = b) :
    Calls Try.prog 17 #[.pointer (some ⟨p, 0, none⟩), .int .u32 NI] w fun ed w' => ed = .returned (.bool b) ∧ Below w.heap.size w w' := by
  subst hNI hb
  exact phas_any n hn h
theorem plen_at (n : Nat) (NI : Int) (hNI : NI = (n : Int)) (h : Pl w p d q S most A OO) (hn : A.length = n) :
    Calls Try.prog 15 #[.pointer (some ⟨p, 0, none⟩)] w fun ed w' => ed = .returned (.int .i64 NI) ∧ Below w.heap.size w w' := by
  subst hNI hn
  exact plen_any h
/-- what a call made, and stays. -/
theorem Fresh.go {w1 w2 : World} {P P' : Nat → Prop} {v : Value} {zs : List Int} (h : Fresh w w1 P v zs) (hg : Go1 P w1 P' w2) : Fresh w w2 P' v zs :=
  ⟨h.1.of_block fun k hk => hg.mv.block k (h.1.lt hk) (h.2 k hk).2, fun g hv => ⟨(h.2 g hv).1, fun hx => (hg.own g hx).elim (h.2 g hv).2 (fun hl => by have := h.1.lt hv; omega)⟩⟩
theorem Fresh.on {w1 w2 : World} {P : Nat → Prop} {v : Value} {zs : List Int} (h : Fresh w w1 P v zs) (hb : Below w1.heap.size w1 w2) : Fresh w w2 P v zs := h.go (Go1.of_below hb)
theorem text_own {v : Value} {zs : List Int} (a : Option Addr) (n cap : Nat) (hv : v = .slice a n cap) (h : Own w v zs) (h8 : Byts zs) : (convert 34 9 (.slice a n cap)).run Try.prog w = .ok (.string (bk zs)) w := by
  subst hv
  obtain ⟨a', c', e, h1, h2, h3, h4, _⟩ := h.shape
  cases e
  exact run_text w a zs.length cap zs rfl h3 h4 h8
end Go.Proofs.Ytkkjppdooaipiaa
