/- A pool whose disk may fail, now and then. -/
import Derived.Test.YtkkjppdooaipiaaPS1
namespace Go.Proofs.Ytkkjppdooaipiaa
open Go.RowKit Go.Maps
set_option linter.unusedVariables false

def DS.fl1 (S : DS) (n : Int) : DS := { S with s1 := true, l1 := n }
def DS.fl3 (S : DS) (n : Int) : DS := { S with s3 := true, l3 := n }
set_option maxHeartbeats 800000 in
set_option maxRecDepth 1000000 in
theorem fl1_any (p q : Nat) (O : Nat → Prop) (S : DS) (n : Int) (w : World) (h : DkAt w p q S O) (h0 : 0 ≤ n) (h1 : n ≤ 9223372036854775807) (hdk : S.dk = false) :
    Calls Try.prog 18 #[.pointer (some ⟨p, 0, none⟩), .int .i64 1, .int .i64 n] w fun e w' => e = .returned (.int .u16 0) ∧ DkAt w' p q (S.fl1 n) O ∧ Go1 O w O w' := by
  obtain ⟨vw, m, hd, ho⟩ := h
  have c3 := hd.c 3 (.bool S.dk) rfl
  rw [hdk] at c3
  have c10 := hd.c 8 _ rfl
  have c11 := hd.c 9 _ rfl
  have f10 := hd.f 8
  have f11 := hd.f 9
  have hbd := build96 n
  have hn : decide (n < 0) = false := by simp; omega
  have HF : Hid (DkAt (sets w p [(8, .bool true), (9, .int .i64 n)]) p q (S.fl1 n) O ∧ Go1 O w O (sets w p [(8, .bool true), (9, .int .i64 n)])) := by
    refine ⟨⟨vw, m, hd.fields (S' := S.fl1 n) rfl rfl ⟨hd.good.ls, hd.good.ws, hd.good.most, hd.good.few, hd.good.t, ⟨h0, h1⟩, hd.good.f2, hd.good.f3, hd.good.n1, hd.good.n2, hd.good.n3⟩ ?_ (fun k hk => sets_other p k hk _ w), ho⟩, Go1.of_mv (sets_mv p _ w) ((ho p).2 (.inl rfl))⟩
    rw [sets_blk p 66 _ w _ hd.blk]
    simp only [List.foldl_cons, List.foldl_nil, cells, List.setIfInBounds_toArray, List.set_cons_succ, List.set_cons_zero, DS.fl1]
  clear hd ho h0 h1
  go_enter Try.func18, Try.ntmps18
  go_wp2
  go_ret
  exact ⟨rfl, HF.out⟩
set_option maxHeartbeats 800000 in
set_option maxRecDepth 1000000 in
theorem fl3_any (p q : Nat) (O : Nat → Prop) (S : DS) (n : Int) (w : World) (h : DkAt w p q S O) (h0 : 0 ≤ n) (h1 : n ≤ 9223372036854775807) (hdk : S.dk = false) :
    Calls Try.prog 18 #[.pointer (some ⟨p, 0, none⟩), .int .i64 3, .int .i64 n] w fun e w' => e = .returned (.int .u16 0) ∧ DkAt w' p q (S.fl3 n) O ∧ Go1 O w O w' := by
  obtain ⟨vw, m, hd, ho⟩ := h
  have c3 := hd.c 3 (.bool S.dk) rfl
  rw [hdk] at c3
  have c10 := hd.c 12 _ rfl
  have c11 := hd.c 13 _ rfl
  have f10 := hd.f 12
  have f11 := hd.f 13
  have hbd := build96 n
  have hn : decide (n < 0) = false := by simp; omega
  have HF : Hid (DkAt (sets w p [(12, .bool true), (13, .int .i64 n)]) p q (S.fl3 n) O ∧ Go1 O w O (sets w p [(12, .bool true), (13, .int .i64 n)])) := by
    refine ⟨⟨vw, m, hd.fields (S' := S.fl3 n) rfl rfl ⟨hd.good.ls, hd.good.ws, hd.good.most, hd.good.few, hd.good.t, hd.good.f1, hd.good.f2, ⟨h0, h1⟩, hd.good.n1, hd.good.n2, hd.good.n3⟩ ?_ (fun k hk => sets_other p k hk _ w), ho⟩, Go1.of_mv (sets_mv p _ w) ((ho p).2 (.inl rfl))⟩
    rw [sets_blk p 66 _ w _ hd.blk]
    simp only [List.foldl_cons, List.foldl_nil, cells, List.setIfInBounds_toArray, List.set_cons_succ, List.set_cons_zero, DS.fl3]
  clear hd ho h0 h1
  go_enter Try.func18, Try.ntmps18
  go_wp2
  go_ret
  exact ⟨rfl, HF.out⟩

set_option maxHeartbeats 800000 in
set_option maxRecDepth 1000000 in
theorem fail_no (p q : Nat) (O : Nat → Prop) (S : DS) (f n : Int) (w : World) (h : DkAt w p q S O) (hbad : (f < 1 ∨ 3 < f ∨ n < 0) ∨ S.dk = true) :
    Calls Try.prog 18 #[.pointer (some ⟨p, 0, none⟩), .int .i64 f, .int .i64 n] w fun e w' => e = .returned (.int .u16 (if f < 1 ∨ 3 < f ∨ n < 0 then 1 else 4)) ∧ Below w.heap.size w w' := by
  obtain ⟨vw, m, hd, ho⟩ := h
  have c3 := hd.c 3 (.bool S.dk) rfl
  clear hd ho
  by_cases h1 : f < 1
  · have d1 : decide (f < 1) = true := by simp [h1]
    rw [if_pos (.inl h1)]
    clear hbad h1
    go_enter Try.func18, Try.ntmps18
    go_wp2
    go_ret
    exact ⟨rfl, Below.refl _ _⟩
  · have d1 : decide (f < 1) = false := by simp [h1]
    by_cases h2 : 3 < f
    · have d2 : decide ((3 : Int) < f) = true := by simp [h2]
      rw [if_pos (.inr (.inl h2))]
      clear hbad h1 h2
      go_enter Try.func18, Try.ntmps18
      go_wp2
      go_ret
      exact ⟨rfl, Below.refl _ _⟩
    · have d2 : decide ((3 : Int) < f) = false := by simp [h2]
      by_cases h3 : n < 0
      · have d3 : decide (n < 0) = true := by simp [h3]
        rw [if_pos (.inr (.inr h3))]
        clear hbad h1 h2 h3
        go_enter Try.func18, Try.ntmps18
        go_wp2
        go_ret
        exact ⟨rfl, Below.refl _ _⟩
      · have d3 : decide (n < 0) = false := by simp [h3]
        have hno : ¬ (f < 1 ∨ 3 < f ∨ n < 0) := fun h => h.elim h1 (fun h => h.elim h2 h3)
        rw [if_neg hno]
        rw [hbad.resolve_left hno] at c3
        clear hbad h1 h2 h3 hno
        go_enter Try.func18, Try.ntmps18
        go_wp2
        go_ret
        exact ⟨rfl, Below.refl _ _⟩
/-- a disk that is not dark, and on which nothing trips, of so many pages, behind at most c operations. -/
structure Live (S : DS) (pages c : Nat) : Prop where
  dk : S.dk = false
  ts : S.ts = false
  len : S.ls.length = 8 * pages
  ws : S.ws.length ≤ 8 * c
  n1 : S.n1 ≤ c
  n2 : S.n2 ≤ c
  n3 : S.n3 ≤ c
variable {S S' : DS} {A A' : List Pge} {pages c most : Nat}
theorem Live.mono (h : Live S pages c) {c' : Nat} (hc : c ≤ c') : Live S pages c' := ⟨h.dk, h.ts, h.len, by have := h.ws; omega, by have := h.n1; omega, by have := h.n2; omega, by have := h.n3; omega⟩
theorem Live.er (h : Live S pages c) (s : Bool) (l : Int) : S.er s l = if (tick s l).1 = true then 6 else 0 := by
  unfold DS.er
  simp [h.dk, h.ts, tick]
theorem Live.be (h : Live S pages c) (S' : DS) : S.be S' = S' := by
  unfold DS.be
  simp [h.dk, h.ts, tick]
theorem tick_hit {s : Bool} {l : Int} (h : (tick s l).1 = true) : (tick s l).2.1 = false := by
  unfold tick at h ⊢
  split at h
  · split at h
    · rename_i h1 h2; simp [h1, h2]
    · simp at h
  · simp at h
theorem tick_off (l : Int) : (tick false l).1 = false := rfl
theorem Live.op1 (h : Live S pages c) : Live S.op1 pages (c + 1) := by
  refine ⟨h.dk, ?_, h.len, ?_, ?_, ?_, ?_⟩
  · show (tick S.ts S.tl).2.1 = false; simp [tick, h.ts]
  · have := h.ws; show S.ws.length ≤ _; omega
  · have := h.n1; show S.n1 + 1 ≤ _; omega
  · have := h.n2; show S.n2 ≤ _; omega
  · have := h.n3; show S.n3 ≤ _; omega
theorem Live.op2 (h : Live S pages c) : Live S.op2 pages (c + 1) := by
  refine ⟨h.dk, ?_, h.len, ?_, ?_, ?_, ?_⟩
  · show (tick S.ts S.tl).2.1 = false; simp [tick, h.ts]
  · have := h.ws; show S.ws.length ≤ _; omega
  · have := h.n1; show S.n1 ≤ _; omega
  · have := h.n2; show S.n2 + 1 ≤ _; omega
  · have := h.n3; show S.n3 ≤ _; omega
theorem Live.op3 (h : Live S pages c) : Live S.op3 pages (c + 1) := by
  refine ⟨h.dk, ?_, h.len, ?_, ?_, ?_, ?_⟩
  · show (tick S.ts S.tl).2.1 = false; simp [tick, h.ts]
  · have := h.ws; show S.ws.length ≤ _; omega
  · have := h.n1; show S.n1 ≤ _; omega
  · have := h.n2; show S.n2 ≤ _; omega
  · have := h.n3; show S.n3 + 1 ≤ _; omega
theorem Live.wr (h : Live S pages c) (b : Nat) (zs : List Int) : Live (S.op2.adds b zs 8) pages (c + 1) := by
  refine ⟨h.op2.dk, h.op2.ts, h.op2.len, ?_, h.op2.n1, h.op2.n2, h.op2.n3⟩
  have := h.ws
  rw [DS.adds_len]
  show S.ws.length + 8 ≤ _
  omega
theorem Live.set (h : Live S pages c) : Live (S.set yes) pages c := by
  refine ⟨h.dk, h.ts, ?_, ?_, h.n1, h.n2, h.n3⟩
  · show (settled _ _ _ _).length = _; rw [settled_len]; exact h.len
  · show 0 ≤ _; omega
theorem Live.cut (h : Live S pages c) (bs : List Bool) : Calm (S.cut bs) pages c := by
  refine ⟨rfl, rfl, rfl, rfl, rfl, ?_, ?_, h.n1, h.n2, h.n3⟩
  · show (settled _ _ _ _).length = _; rw [settled_len]; exact h.len
  · show 0 ≤ _; omega
theorem Live.new (pages : Nat) : Live (DS.new (8 * pages)) pages 0 := ⟨rfl, rfl, by simp [DS.new], by simp [DS.new], by simp [DS.new], by simp [DS.new], by simp [DS.new]⟩
/-- a pool whose disk may fail. -/
structure LP (W : World) (p d q : Nat) (S : DS) (most : Nat) (A : List Pge) (OO : Nat → Prop) (pages c : Nat) : Prop where
  pl : Pl W p d q S most A OO
  live : Live S pages c
  coh : Coh S A pages
variable {w w' W W' : World} {p d q : Nat} {OO OO' : Nat → Prop}
theorem LP.mono (h : LP W p d q S most A OO pages c) {c' : Nat} (hc : c ≤ c') : LP W p d q S most A OO pages c' := ⟨h.pl, h.live.mono hc, h.coh⟩
theorem LP.below (h : LP W p d q S most A OO pages c) (hb : Below W.heap.size W W') : LP W' p d q S most A OO pages c := ⟨h.pl.below hb, h.live, h.coh⟩
theorem LP.other {P : Nat → Prop} (h : LP W p d q S most A OO pages c) (hm : Mv P W W') (hap : ∀ k, OO k → ¬ P k) : LP W' p d q S most A OO pages c := ⟨h.pl.other hm hap, h.live, h.coh⟩
/-- what is told of a page: it failed, or what the disk has. -/
theorem LP.read (h : LP w p d q S most A OO pages c) (hc : c ≤ 9000) (hpg : pages ≤ 10000) (n : Nat) (hn : n < pages) (K E : Nat) (pl : List Int) (hrs : rs pages n (rd S (8 * n) 8) = (K, E, pl)) :
    Calls Try.prog 10 #[.pointer (some ⟨p, 0, none⟩), .int .u32 (n : Int)] w fun ed w' => ∃ v S' A' OO', LP w' p d q S' most A' OO' pages (c + 1) ∧ (∀ j, j < pages → rd S' (8 * j) 8 = rd S (8 * j) 8) ∧ Go1 OO w OO' w' ∧
      ((S.s1 = true ∧ S'.s1 = false ∧ v = .slice none 0 0 ∧ ed = .returned (.tuple #[.int .u8 0, v, .int .u16 6])) ∨ (ed = .returned (.tuple #[.int .u8 (K : Int), v, .int .u16 (E : Int)]) ∧ Fresh w w' OO' v pl)) := by
  unfold rs at hrs
  rw [if_pos hn] at hrs
  have hn1 := h.live.n1
  have hll := h.live.len
  by_cases hin : n ∈ A.map Pge.n
  · obtain ⟨x, hx, rfl⟩ := find_n A n hin
    have ho := h.coh.opn hx
    rw [ho] at hrs
    cases hrs
    refine (read_hand x (h.pl.mo.2.2.2.2 x hx).1 h.pl (by rw [hll]; omega) hx).mono ?_
    rintro ed w' ⟨v, OO', rfl, hf, hp, hg⟩
    exact ⟨v, S, _, OO', ⟨hp, h.live.mono (by omega), (h.coh.wo _).snoc (h.coh x hx)⟩, fun _ _ => rfl, hg, .inr ⟨rfl, hf⟩⟩
  · by_cases ht : (tick S.s1 S.l1).1 = true
    · have he : S.er S.s1 S.l1 = 6 := by rw [h.live.er, if_pos ht]
      refine (read_io n (by omega) h.pl (by rw [hll]; omega) hin (by omega) (by omega)).mono ?_
      rintro ed w' ⟨OO', rfl, hp, hg⟩
      rw [h.live.be] at hp
      refine ⟨_, S.op1, A, OO', ⟨hp, h.live.op1, h.coh.same fun j _ => rd_op1 S _ _⟩, fun j _ => rd_op1 S _ _, hg, .inl ⟨?_, tick_hit ht, rfl, by rw [he]; rfl⟩⟩
      cases hs : S.s1
      · rw [hs] at ht; simp [tick] at ht
      · rfl
    · have he : S.er S.s1 S.l1 = 0 := by rw [h.live.er, if_neg ht]
      refine (read_disk n (by omega) h.pl (by rw [hll]; omega) hin (by omega) he).mono ?_
      rintro ed w' ⟨hno, hy⟩
      cases ho : Pg.opn n (rd S (8 * n) 8) with
      | none =>
        rw [ho] at hrs
        cases hrs
        obtain ⟨OO', rfl, hp, hg⟩ := hno ho
        exact ⟨_, S.op1, A, OO', ⟨hp, h.live.op1, h.coh.same fun j _ => rd_op1 S _ _⟩, fun j _ => rd_op1 S _ _, hg, .inr ⟨rfl, Fresh.nil _ _ _⟩⟩
      | some y =>
        obtain ⟨k, pl'⟩ := y
        rw [ho] at hrs
        cases hrs
        obtain ⟨v, OO', rfl, hf, hp, hg⟩ := hy _ _ ho
        obtain ⟨q1, q2, q3, q4⟩ := Pg.opn_some ho
        exact ⟨v, S.op1, _, OO', ⟨hp, h.live.op1, (h.coh.same fun j _ => rd_op1 S _ _).inn ⟨hn, q1, q2, q3, (rd_op1 S _ _).trans q4⟩⟩, fun j _ => rd_op1 S _ _, hg, .inr ⟨rfl, hf⟩⟩
/-- a page is written, or it is not, and then nothing has changed. -/
theorem LP.write (h : LP w p d q S most A OO pages c) (hc : c ≤ 9000) (hpg : pages ≤ 10000) (n k : Nat) (hn : n < pages) (h1 : 1 ≤ k) (h4 : k ≤ 4) (a : Option Addr) (cap : Nat) (pl : List Int) (hin : Inn w a pl.length cap pl) (hap : pl ≠ [] → ∀ ad, a = some ad → ¬ OO ad.block) (len : Nat) (hlen : pl.length = len) :
    Calls Try.prog 12 #[.pointer (some ⟨p, 0, none⟩), .int .u32 (n : Int), .int .u8 (k : Int), .slice a len cap] w fun ed w' => ∃ (E : Nat) (S' : DS) (A' : List Pge) (OO' : Nat → Prop), ed = .returned (.int .u16 (E : Int)) ∧ E ≤ 100 ∧ LP w' p d q S' most A' OO' pages (c + 1) ∧ Go1 OO w OO' w' ∧
      ((E = 0 ∧ len ≤ 1008 ∧ ∀ j, j < pages → rd S' (8 * j) 8 = if j = n then Pg.pg k n pl else rd S (8 * j) 8) ∨ (E ≠ 0 ∧ ∀ j, j < pages → rd S' (8 * j) 8 = rd S (8 * j) 8)) := by
  subst hlen
  have hn2 := h.live.n2
  have hll := h.live.len
  have hws := h.live.ws
  by_cases hl : pl.length ≤ 1008
  · refine (write_disk n k a pl.length cap pl (by omega) h.pl h1 h4 hl rfl hin.bare hin.row hin.byts hap (by rw [hll]; omega) (by rw [hll]; omega) (by omega) (by omega)).mono ?_
    rintro ed w' ⟨rfl, OO', hp, hg⟩
    have hlg : (Pg.pg k n pl).length = 1024 := Pg.pg_length k n pl hl
    by_cases ht : (tick S.s2 S.l2).1 = true
    · have he : S.er S.s2 S.l2 = 6 := by rw [h.live.er, if_pos ht]
      rw [he] at hp ⊢
      rw [if_neg (by omega), DS.wr, if_neg (by omega), h.live.be] at hp
      have hrd : ∀ j, rd S.op2 (8 * j) 8 = rd S (8 * j) 8 := fun j => rd_same rfl rfl _ _
      exact ⟨6, _, _, OO', rfl, by omega, ⟨hp, h.live.op2, (h.coh.wo n).same fun j _ => hrd j⟩, hg, .inr ⟨by omega, fun j _ => hrd j⟩⟩
    · have he : S.er S.s2 S.l2 = 0 := by rw [h.live.er, if_neg ht]
      rw [he] at hp ⊢
      rw [if_pos rfl, DS.wr, if_pos he] at hp
      have hrd : ∀ j, rd (S.op2.adds (8 * n) (Pg.pg k n pl) 8) (8 * j) 8 = if j = n then Pg.pg k n pl else rd S (8 * j) 8 := fun j => by
        by_cases e : j = n
        · subst e; rw [if_pos rfl]; exact rd_wr_same S j _ hlg
        · rw [if_neg e]; exact rd_wr_other S _ (fun h => e h.symm)
      refine ⟨0, _, _, OO', rfl, by omega, ⟨hp, h.live.wr _ _, Coh.inn (fun x hx => ?_) ⟨hn, h1, h4, hl, rd_wr_same S n _ hlg⟩⟩, hg, .inl ⟨rfl, hl, fun j _ => hrd j⟩⟩
      obtain ⟨hx1, hx2⟩ := List.mem_filter.1 hx
      have hne : x.n ≠ n := by simpa using hx2
      refine ⟨(h.coh x hx1).1, (h.coh x hx1).2.1, (h.coh x hx1).2.2.1, (h.coh x hx1).2.2.2.1, ?_⟩
      rw [hrd, if_neg hne]
      exact (h.coh x hx1).2.2.2.2
  · refine (write_bad n k a pl.length cap w _ (by omega)).mono ?_
    rintro ed w' ⟨rfl, hb⟩
    exact ⟨80, S, A, OO, rfl, by omega, (h.below hb).mono (by omega), Go1.of_below hb, .inr ⟨by omega, fun j _ => rfl⟩⟩
theorem LP.forget (h : LP w p d q S most A OO pages c) (n : Nat) (hn : n < 4294967296) :
    Calls Try.prog 13 #[.pointer (some ⟨p, 0, none⟩), .int .u32 (n : Int)] w fun ed w' => ∃ A' OO', ed = .returned (.tuple #[]) ∧ LP w' p d q S most A' OO' pages c ∧ Go1 OO w OO' w' := by
  refine (forget_any n hn h.pl).mono ?_
  rintro ed w' ⟨rfl, OO', hp, hg⟩
  exact ⟨_, OO', rfl, ⟨hp, h.live, h.coh.wo n⟩, hg⟩
theorem LP.sync (h : LP w p d q S most A OO pages c) (hc : c ≤ 9000) :
    Calls Try.prog 14 #[.pointer (some ⟨p, 0, none⟩)] w fun ed w' => ∃ (E : Nat) (S' : DS) (OO' : Nat → Prop), ed = .returned (.int .u16 (E : Int)) ∧ E ≤ 6 ∧ LP w' p d q S' most A OO' pages (c + 1) ∧ (∀ j, j < pages → rd S' (8 * j) 8 = rd S (8 * j) 8) ∧ Go1 OO w OO' w' ∧ ((E = 0 ∧ S'.ws = []) ∨ (E ≠ 0 ∧ S.s3 = true ∧ S'.s3 = false)) := by
  have hn3 := h.live.n3
  refine (psync_any h.pl (by omega)).mono ?_
  rintro ed w' ⟨rfl, OO', hp, hg⟩
  by_cases ht : (tick S.s3 S.l3).1 = true
  · have he : S.er S.s3 S.l3 = 6 := by rw [h.live.er, if_pos ht]
    rw [DS.sy, if_neg (by omega), h.live.be] at hp
    have hrd : ∀ j, j < pages → rd S.op3 (8 * j) 8 = rd S (8 * j) 8 := fun j _ => rd_same rfl rfl _ _
    refine ⟨6, _, OO', by rw [he], by omega, ⟨hp, h.live.op3, h.coh.same hrd⟩, hrd, hg, .inr ⟨by omega, ?_, tick_hit ht⟩⟩
    cases hs : S.s3
    · rw [hs] at ht; simp [tick] at ht
    · rfl
  · have he : S.er S.s3 S.l3 = 0 := by rw [h.live.er, if_neg ht]
    rw [DS.sy, if_pos he] at hp
    have hrd : ∀ j, j < pages → rd (S.op3.set yes) (8 * j) 8 = rd S (8 * j) 8 := fun j hj => (rd_set (S := S.op3) _ _ (by show 8 * j + 8 ≤ S.ls.length; rw [h.live.len]; omega)).trans (rd_same rfl rfl _ _)
    exact ⟨0, _, OO', by rw [he], by omega, ⟨hp, h.live.op3.set, h.coh.same hrd⟩, hrd, hg, .inl ⟨rfl, rfl⟩⟩
theorem LP.fail (h : LP w p d q S most A OO pages c) (f : Nat) (hf : 1 ≤ f ∧ f ≤ 3) (n : Int) (hn : n ≤ 9223372036854775807) :
    Calls Try.prog 18 #[.pointer (some ⟨d, 0, none⟩), .int .i64 (f : Int), .int .i64 n] w fun ed w' => ∃ (E : Int) (S' : DS) (OO' : Nat → Prop), ed = .returned (.int .u16 E) ∧ LP w' p d q S' most A OO' pages c ∧ (∀ j, j < pages → rd S' (8 * j) 8 = rd S (8 * j) 8) ∧ Go1 OO w OO' w' := by
  obtain ⟨O, e, m, L, el, yo, h1, hL, h3⟩ := h.pl
  have key : ∀ S1 w1, DkAt w1 d q S1 O → Go1 O w O w1 → S1.ls = S.ls → S1.ws = S.ws → Live S1 pages c → LP w1 p d q S1 most A (fun k => O k ∨ OwP p e m L k) pages c ∧ (∀ j, j < pages → rd S1 (8 * j) 8 = rd S (8 * j) 8) ∧ Go1 OO w (fun k => O k ∨ OwP p e m L k) w1 := fun S1 w1 hd hg e1 e2 hl => by
    have hrd : ∀ j, j < pages → rd S1 (8 * j) 8 = rd S (8 * j) 8 := fun j _ => rd_same e1 e2 _ _
    exact ⟨⟨⟨O, e, m, L, el, yo, h1.disk hd hg, hL, fun k => Iff.rfl⟩, hl, h.coh.same hrd⟩, hrd, Pl.gone h3 (hg.left (P := OwP p e m L))⟩
  by_cases h0 : n < 0
  · refine (fail_no d q O S (f : Int) n w h1.dk (.inl (.inr (.inr h0)))).mono ?_
    rintro ed w' ⟨rfl, hb⟩
    obtain ⟨k1, k2, k3⟩ := key S w' (h1.dk.below hb) (Go1.of_below hb) rfl rfl h.live
    exact ⟨_, _, _, rfl, k1, k2, k3⟩
  · have hf3 : f = 1 ∨ f = 2 ∨ f = 3 := by omega
    rcases hf3 with rfl | rfl | rfl
    · refine (fl1_any d q O S n w h1.dk (by omega) hn h.live.dk).mono ?_
      rintro ed w' ⟨rfl, hd, hg⟩
      obtain ⟨k1, k2, k3⟩ := key _ w' hd hg rfl rfl ⟨h.live.dk, h.live.ts, h.live.len, h.live.ws, h.live.n1, h.live.n2, h.live.n3⟩
      exact ⟨_, _, _, rfl, k1, k2, k3⟩
    · refine (fail2_any d q O S n w h1.dk (by omega) hn h.live.dk).mono ?_
      rintro ed w' ⟨rfl, hd, hg⟩
      obtain ⟨k1, k2, k3⟩ := key _ w' hd hg rfl rfl ⟨h.live.dk, h.live.ts, h.live.len, h.live.ws, h.live.n1, h.live.n2, h.live.n3⟩
      exact ⟨_, _, _, rfl, k1, k2, k3⟩
    · refine (fl3_any d q O S n w h1.dk (by omega) hn h.live.dk).mono ?_
      rintro ed w' ⟨rfl, hd, hg⟩
      obtain ⟨k1, k2, k3⟩ := key _ w' hd hg rfl rfl ⟨h.live.dk, h.live.ts, h.live.len, h.live.ws, h.live.n1, h.live.n2, h.live.n3⟩
      exact ⟨_, _, _, rfl, k1, k2, k3⟩
end Go.Proofs.Ytkkjppdooaipiaa
/- What PoolLast knows between two acts: the pool, what was written last, the two rows beside it. -/
namespace Go.Proofs.Ytkkjppdooaipiaa
open Go.RowKit Go.Maps
set_option linter.unusedVariables false

/-- what was written last to each page. -/
abbrev Cn := Nat → Option (Nat × Ac)
def wv' : Option (Nat × Ac) → Value
  | none => .slice none 0 0
  | some (_, x) => .slice x.da x.db.length x.dc
def wantc (C : Cn) : Array Value := #[wv' (C 0), wv' (C 1), wv' (C 2), wv' (C 3), wv' (C 4), wv' (C 5)]
def hasc (C : Cn) : Array Value := #[.bool (C 0).isSome, .bool (C 1).isSome, .bool (C 2).isSome, .bool (C 3).isSome, .bool (C 4).isSome, .bool (C 5).isSome]
def updC (C : Cn) (m : Nat) (y : Nat × Ac) : Cn := fun j => if j = m then some y else C j
theorem six {m : Nat} (h : m < 6) : m = 0 ∨ m = 1 ∨ m = 2 ∨ m = 3 ∨ m = 4 ∨ m = 5 := by omega
theorem wantc_at (C : Cn) {m : Nat} (h : m < 6) : (wantc C)[m]? = some (wv' (C m)) := by rcases six h with rfl | rfl | rfl | rfl | rfl | rfl <;> rfl
theorem hasc_at (C : Cn) {m : Nat} (h : m < 6) : (hasc C)[m]? = some (.bool (C m).isSome) := by rcases six h with rfl | rfl | rfl | rfl | rfl | rfl <;> rfl
theorem wantc_set (C : Cn) {m : Nat} (h : m < 6) (y : Nat × Ac) : (wantc C).setIfInBounds m (wv' (some y)) = wantc (updC C m y) := by rcases six h with rfl | rfl | rfl | rfl | rfl | rfl <;> simp [wantc, updC]
theorem hasc_set (C : Cn) {m : Nat} (h : m < 6) (y : Nat × Ac) : (hasc C).setIfInBounds m (.bool true) = hasc (updC C m y) := by rcases six h with rfl | rfl | rfl | rfl | rfl | rfl <;> simp [hasc, updC]
structure WH (B : Nat) (W : World) (OO : Nat → Prop) (wb hb : Nat) (C : Cn) : Prop where
  wan : W.heap[wb]? = some (.cells (wantc C) 34 (0, 0))
  has : W.heap[hb]? = some (.cells (hasc C) 4 (0, 0))
  nw : ¬ OO wb
  nh : ¬ OO hb
  bw : B ≤ wb
  bh : B ≤ hb
variable {B : Nat} {w0 W W' : World} {OO OO' : Nat → Prop} {wb hb : Nat} {C : Cn}
theorem WH.wh (h : WH B W OO wb hb C) : wb ≠ hb := fun e => by
  have := h.wan
  rw [e, h.has] at this
  simp at this
theorem WH.go (h : WH B W OO wb hb C) (hg : Go1 OO W OO' W') : WH B W' OO' wb hb C :=
  ⟨(hg.mv.block wb (lt_of_block h.wan) h.nw).trans h.wan, (hg.mv.block hb (lt_of_block h.has) h.nh).trans h.has, fun hx => (hg.own wb hx).elim h.nw (fun x => by have := lt_of_block h.wan; omega), fun hx => (hg.own hb hx).elim h.nh (fun x => by have := lt_of_block h.has; omega), h.bw, h.bh⟩
theorem WH.on (h : WH B W OO wb hb C) (hb' : Below W.heap.size W W') : WH B W' OO wb hb C := h.go (Go1.of_below hb')
theorem WH.less (h : WH B W OO wb hb C) (hs : ∀ k, OO' k → OO k) : WH B W OO' wb hb C := ⟨h.wan, h.has, fun hx => h.nw (hs _ hx), fun hx => h.nh (hs _ hx), h.bw, h.bh⟩
theorem WH.cw (h : WH B W OO wb hb C) {m : Nat} (hm : m < 6) : W.cell? ⟨wb, m, none⟩ = some (wv' (C m)) := by simp [World.cell?, h.wan, wantc_at C hm]
theorem WH.ch (h : WH B W OO wb hb C) {m : Nat} (hm : m < 6) : W.cell? ⟨hb, m, none⟩ = some (.bool (C m).isSome) := by simp [World.cell?, h.has, hasc_at C hm]
theorem WH.fw (h : WH B W OO wb hb C) (m : Nat) : W.frozen? ⟨wb, m, none⟩ = false := by simp [World.frozen?, h.wan]
theorem WH.fh (h : WH B W OO wb hb C) (m : Nat) : W.frozen? ⟨hb, m, none⟩ = false := by simp [World.frozen?, h.has]
theorem WH.mv (h : WH B W OO wb hb C) (m : Nat) (u v : Value) : Mv (fun k => k = wb ∨ k = hb) W ((W.setCell ⟨wb, m, none⟩ u).setCell ⟨hb, m, none⟩ v) := ((Mv.refl _ W).setB (.inl rfl) m u).setB (.inr rfl) m v
theorem WH.put (h : WH B W OO wb hb C) {m : Nat} (hm : m < 6) (y : Nat × Ac) : WH B ((W.setCell ⟨wb, m, none⟩ (wv' (some y))).setCell ⟨hb, m, none⟩ (.bool true)) OO wb hb (updC C m y) := by
  refine ⟨?_, ?_, h.nw, h.nh, h.bw, h.bh⟩
  · rw [Below.heap_setCell _ _ _ _ (fun e => h.wh e), heap_setCell_same W wb m _ 34 _ h.wan, wantc_set C hm]
  · rw [heap_setCell_same _ hb m _ 4 _ ((Below.heap_setCell _ _ _ _ (fun e => h.wh e.symm)).trans h.has), hasc_set C hm]
theorem Fd.put (h : Fd B w0 W OO) (hw : WH B W OO wb hb C) (m : Nat) (u v : Value) : Fd B w0 ((W.setCell ⟨wb, m, none⟩ u).setCell ⟨hb, m, none⟩ v) OO :=
  ⟨(h.below.setCell (p := ⟨wb, m, none⟩) hw.bw u).setCell (p := ⟨hb, m, none⟩) hw.bh v, by have := h.size; simpa [World.setCell] using this, h.own⟩
/-- what a page has is what was written last. -/
def Dt1 (w0 : World) (S : DS) (j : Nat) : Option (Nat × Ac) → Prop
  | none => rd S (8 * j) 8 = List.replicate 1024 0
  | some (k, x) => (1 ≤ k ∧ k ≤ 4) ∧ x.db.length ≤ 1008 ∧ rd S (8 * j) 8 = Pg.pg k j x.db ∧ Inn w0 x.da x.db.length x.dc x.db
def Dat (w0 : World) (S : DS) (C : Cn) : Prop := ∀ j, j < 6 → Dt1 w0 S j (C j)
theorem Dat.same {S S' : DS} (h : Dat w0 S C) (hr : ∀ j, j < 6 → rd S' (8 * j) 8 = rd S (8 * j) 8) : Dat w0 S' C := fun j hj => by
  have h1 := h j hj
  cases hc : C j with
  | none => rw [hc] at h1; exact (hr j hj).trans h1
  | some y => rw [hc] at h1; exact ⟨h1.1, h1.2.1, (hr j hj).trans h1.2.2.1, h1.2.2.2⟩
theorem Dat.put {S S' : DS} (h : Dat w0 S C) {m k : Nat} {x : Ac} (hr : ∀ j, j < 6 → rd S' (8 * j) 8 = if j = m then Pg.pg k m x.db else rd S (8 * j) 8) (h1 : 1 ≤ k ∧ k ≤ 4) (hl : x.db.length ≤ 1008) (hi : Inn w0 x.da x.db.length x.dc x.db) : Dat w0 S' (updC C m (k, x)) := fun j hj => by
  unfold updC
  by_cases e : j = m
  · subst e
    rw [if_pos rfl]
    exact ⟨h1, hl, (hr j hj).trans (if_pos rfl), hi⟩
  · rw [if_neg e]
    have h2 := h j hj
    have h3 := (hr j hj).trans (if_neg e)
    cases hc : C j with
    | none => rw [hc] at h2; exact h3.trans h2
    | some y => rw [hc] at h2; exact ⟨h2.1, h2.2.1, h3.trans h2.2.2.1, h2.2.2.2⟩
theorem opn_zero (m : Nat) : Pg.opn m (List.replicate 1024 0) = none := Pg.opn_none fun k pl _ _ _ e => by
  have h1 := congrArg (fun l => l[0]?) e
  rw [Pg.pg_eq, Pg.pb] at h1
  simp only [List.append_assoc, List.cons_append, List.getElem?_cons_zero] at h1
  rw [List.getElem?_replicate] at h1
  simp at h1
theorem Dat.none {S : DS} (h : Dat w0 S C) {m : Nat} (hm : m < 6) (hc : C m = none) : rs 6 m (rd S (8 * m) 8) = (0, 100, []) := by
  have h1 := h m hm
  rw [hc] at h1
  unfold rs
  rw [if_pos hm, show rd S (8 * m) 8 = List.replicate 1024 0 from h1, opn_zero]
theorem Dat.some {S : DS} (h : Dat w0 S C) {m k : Nat} {x : Ac} (hm : m < 6) (hc : C m = some (k, x)) : rs 6 m (rd S (8 * m) 8) = (k, 0, x.db) ∧ Inn w0 x.da x.db.length x.dc x.db := by
  have h1 := h m hm
  rw [hc] at h1
  obtain ⟨h2, h3, h4, h5⟩ := h1
  refine ⟨?_, h5⟩
  unfold rs
  rw [if_pos hm, h4, Pg.opn_pg k m x.db h2.1 h2.2 h3]
theorem Dat.new : Dat w0 (DS.new (8 * 6)) (fun _ => Option.none) := fun j hj => new_rd (8 * 6) (8 * j) 8 (by omega)
theorem CP.live {W : World} {p d q most pages c : Nat} {S : DS} {A : List Pge} {OO : Nat → Prop} (h : CP W p d q S most A OO pages c) : LP W p d q S most A OO pages c := ⟨h.pl, ⟨h.calm.dk, h.calm.ts, h.calm.len, h.calm.ws, h.calm.n1, h.calm.n2, h.calm.n3⟩, h.coh⟩
/-- the power goes, and comes back. -/
theorem LP.cut {w : World} {p d q most pages c : Nat} {S : DS} {A : List Pge} {OO : Nat → Prop} (h : LP w p d q S most A OO pages c) (hws : S.ws = []) :
    Calls Try.prog 19 #[.pointer (some ⟨d, 0, none⟩), .slice none 0 0] w fun ed w' => ed = .returned (.tuple #[]) ∧ ∃ O' OO1, DkAt w' d q (S.cut []) O' ∧ Calm (S.cut []) pages c ∧ (∀ j, j < pages → rd (S.cut []) (8 * j) 8 = rd S (8 * j) 8) ∧ Go1 OO w OO1 w' ∧ ∀ k, O' k → OO1 k := by
  obtain ⟨O, e, m, L, el, yo, h1, hL, h3⟩ := h.pl
  refine (cut_any d q O S none 0 [] w h1.dk (.inl rfl) (fun h => absurd rfl h) (fun h => absurd rfl h) (by simp)).mono ?_
  rintro ed w' ⟨rfl, O', hd, hg⟩
  exact ⟨rfl, O', fun k => O' k ∨ OwP p e m L k, hd, h.live.cut [], fun j _ => rd_cut _ _ _ hws, Pl.gone h3 (hg.left (P := OwP p e m L)), fun k hk => .inl hk⟩
theorem makeW (W : World) : (Instr.makeSlice 52 (.int .i64 6) (.int .i64 6)).run Try.prog W = .ok (.slice (Option.some ⟨W.heap.size, 0, Option.none⟩) 6 6) (W.alloc (.cells (wantc fun _ => Option.none) 34)) :=
  by
  have h := run_make_row' (P := Try.prog) 52 34 (.slice Option.none 0 0) 24 Try.underlying52 (by kernel_rfl) rfl .i64 .i64 6 (by omega) (by omega) W
  have e : madeCells #[Value.slice Option.none 0 0] 6 = wantc (fun _ => Option.none) := by kernel_rfl
  rw [e] at h
  exact h
theorem makeH (W : World) : (Instr.makeSlice 35 (.int .i64 6) (.int .i64 6)).run Try.prog W = .ok (.slice (Option.some ⟨W.heap.size, 0, Option.none⟩) 6 6) (W.alloc (.cells (hasc fun _ => Option.none) 4)) :=
  by
  have h := run_make_row' (P := Try.prog) 35 4 (.bool false) 1 Try.underlying35 (by kernel_rfl) rfl .i64 .i64 6 (by omega) (by omega) W
  have e : madeCells #[Value.bool false] 6 = hasc (fun _ => Option.none) := by kernel_rfl
  rw [e] at h
  exact h
end Go.Proofs.Ytkkjppdooaipiaa
