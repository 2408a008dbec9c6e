/- A disk that is loaded, or not; one that is done with; what is done with it. -/
import Derived.Test.YtfifpgkmgbenlaaMU
import Derived.Test.YtfifpgkmgbenlaaED
import Derived.Test.YtfifpgkmgbenlaaDY
namespace Go.Proofs.Ytfifpgkmgbenlaa
open Go.RowKit Go.Maps
set_option linter.unusedVariables false

def DS.fl1 (S : DS) (n : Int) : DS := { S with s1 := true, l1 := n }
def DS.fl3 (S : DS) (n : Int) : DS := { S with s3 := true, l3 := n }
set_option maxHeartbeats 800000 in
set_option maxRecDepth 1000000 in
theorem fl1_any (p q : Nat) (O : Nat → Prop) (S : DS) (n : Int) (w : World) (h : DkAt w p q S O) (h0 : 0 ≤ n) (h1 : n ≤ 9223372036854775807) (hdk : S.dk = false) :
    Calls Try.prog 12 #[.pointer (some ⟨p, 0, none⟩), .int .i64 1, .int .i64 n] w fun e w' => e = .returned (.int .u16 0) ∧ DkAt w' p q (S.fl1 n) O ∧ Go1 O w O w' := by
  obtain ⟨vw, m, hd, ho⟩ := h
  have c3 := hd.c 3 (.bool S.dk) rfl
  rw [hdk] at c3
  have c10 := hd.c 8 _ rfl
  have c11 := hd.c 9 _ rfl
  have f10 := hd.f 8
  have f11 := hd.f 9
  have hbd := build96 n
  have hn : decide (n < 0) = false := by simp; omega
  have HF : Hid (DkAt (sets w p [(8, .bool true), (9, .int .i64 n)]) p q (S.fl1 n) O ∧ Go1 O w O (sets w p [(8, .bool true), (9, .int .i64 n)])) := by
    refine ⟨⟨vw, m, hd.fields (S' := S.fl1 n) rfl rfl ⟨hd.good.ls, hd.good.ws, hd.good.most, hd.good.few, hd.good.t, ⟨h0, h1⟩, hd.good.f2, hd.good.f3, hd.good.n1, hd.good.n2, hd.good.n3⟩ ?_ (fun k hk => sets_other p k hk _ w), ho⟩, Go1.of_mv (sets_mv p _ w) ((ho p).2 (.inl rfl))⟩
    rw [sets_blk p 61 _ w _ hd.blk]
    simp only [List.foldl_cons, List.foldl_nil, cells, List.setIfInBounds_toArray, List.set_cons_succ, List.set_cons_zero, DS.fl1]
  clear hd ho h0 h1
  go_enter Try.func12, Try.ntmps12
  go_wp2
  go_ret
  exact ⟨rfl, HF.out⟩
set_option maxHeartbeats 800000 in
set_option maxRecDepth 1000000 in
theorem fl3_any (p q : Nat) (O : Nat → Prop) (S : DS) (n : Int) (w : World) (h : DkAt w p q S O) (h0 : 0 ≤ n) (h1 : n ≤ 9223372036854775807) (hdk : S.dk = false) :
    Calls Try.prog 12 #[.pointer (some ⟨p, 0, none⟩), .int .i64 3, .int .i64 n] w fun e w' => e = .returned (.int .u16 0) ∧ DkAt w' p q (S.fl3 n) O ∧ Go1 O w O w' := by
  obtain ⟨vw, m, hd, ho⟩ := h
  have c3 := hd.c 3 (.bool S.dk) rfl
  rw [hdk] at c3
  have c10 := hd.c 12 _ rfl
  have c11 := hd.c 13 _ rfl
  have f10 := hd.f 12
  have f11 := hd.f 13
  have hbd := build96 n
  have hn : decide (n < 0) = false := by simp; omega
  have HF : Hid (DkAt (sets w p [(12, .bool true), (13, .int .i64 n)]) p q (S.fl3 n) O ∧ Go1 O w O (sets w p [(12, .bool true), (13, .int .i64 n)])) := by
    refine ⟨⟨vw, m, hd.fields (S' := S.fl3 n) rfl rfl ⟨hd.good.ls, hd.good.ws, hd.good.most, hd.good.few, hd.good.t, hd.good.f1, hd.good.f2, ⟨h0, h1⟩, hd.good.n1, hd.good.n2, hd.good.n3⟩ ?_ (fun k hk => sets_other p k hk _ w), ho⟩, Go1.of_mv (sets_mv p _ w) ((ho p).2 (.inl rfl))⟩
    rw [sets_blk p 61 _ w _ hd.blk]
    simp only [List.foldl_cons, List.foldl_nil, cells, List.setIfInBounds_toArray, List.set_cons_succ, List.set_cons_zero, DS.fl3]
  clear hd ho h0 h1
  go_enter Try.func12, Try.ntmps12
  go_wp2
  go_ret
  exact ⟨rfl, HF.out⟩

set_option maxHeartbeats 1600000 in
set_option maxRecDepth 1000000 in
theorem new_no (w : World) : Calls Try.prog 7 #[.int .i64 0] w fun e w' => ∃ E : Int, e = .returned (.tuple #[.pointer none, .int .u16 E]) ∧ ¬ E = 0 ∧ (E == 0) = false ∧ Below w.heap.size w w' := by
  go_enter Try.func7, Try.ntmps7
  go_wp2
  go_ret2
  exact ⟨_, rfl, by decide, by decide, Below.refl _ _⟩
set_option maxHeartbeats 1600000 in
set_option maxRecDepth 1000000 in
theorem load_no (a : Option Addr) (n cap : Nat) (w : World) (hn : n ≤ 20000) (hbad : ¬ (n % 1024 = 0 ∧ 1 ≤ n)) :
    Calls Try.prog 6 #[.slice a n cap] w fun e w' => ∃ E : Int, e = .returned (.tuple #[.pointer none, .int .u16 E]) ∧ ¬ E = 0 ∧ (E == 0) = false ∧ Below w.heap.size w w' := by
  by_cases h0 : n % 1024 = 0
  · have hz : n = 0 := by omega
    subst hz
    go_enter Try.func6, Try.ntmps6
    go_wp2_with fail
    refine (new_no w).mono ?_
    rintro e w1 ⟨E, rfl, hE, hE', hb⟩
    have HB := hide hb
    have HE1 := hide hE
    have HE2 := hide hE'
    clear hb
    go_wp2
    go_ret2
    exact ⟨_, rfl, HE1.out, HE2.out, HB.out⟩
  · have e0 : ¬ (n : Int) % 1024 = 0 := by omega
    have e1 : ((n : Int) % 1024 == 0) = false := by simpa using e0
    clear hbad
    go_enter Try.func6, Try.ntmps6
    go_wp2
    go_ret2
    exact ⟨_, rfl, by decide, by decide, Below.refl _ _⟩
/-- a disk that is done with, behind at most c operations. -/
structure Bd (S : DS) (pages c : Nat) : Prop where
  len : S.ls.length = 8 * pages
  ws : S.ws.length ≤ 8 * c
  n2 : S.n2 ≤ c
  n3 : S.n3 ≤ c
variable {S : DS} {pages c : Nat}
theorem Bd.be {S' : DS} (h : Bd S pages c) (h1 : S'.ls = S.ls) (h2 : S'.ws = S.ws) (h3 : S'.n2 ≤ c + 1) (h4 : S'.n3 ≤ c + 1) : Bd (S.be S') pages (c + 1) := by
  have a1 := h.ws
  have a2 := h.n2
  have a3 := h.n3
  unfold DS.be
  split
  · exact ⟨h.len, by omega, by omega, by omega⟩
  · split
    · exact ⟨h.len, by show S.ws.length ≤ _; omega, by show S.n2 ≤ _; omega, by show S.n3 ≤ _; omega⟩
    · exact ⟨by rw [h1]; exact h.len, by rw [h2]; omega, by omega, by omega⟩
theorem Bd.mono (h : Bd S pages c) {c' : Nat} (hc : c ≤ c') : Bd S pages c' := ⟨h.len, by have := h.ws; omega, by have := h.n2; omega, by have := h.n3; omega⟩
variable {w : World} {p q : Nat} {O : Nat → Prop}
/-- any write. -/
theorem any_write (h : DkAt w p q S O) (hb : Bd S pages c) (hc : c ≤ 1000) (hp : pages ≤ 1000) (pg : Int) (a : Option Addr) (cap : Nat) (zs : List Int) (hin : Inn w a zs.length cap zs) (hap : zs ≠ [] → ∀ ad, a = some ad → ¬ O ad.block) (len : Nat) (hlen : zs.length = len) :
    Calls Try.prog 8 #[.pointer (some ⟨p, 0, none⟩), .int .i64 pg, .slice a len cap] w fun e w' => ∃ E S' O', e = .returned (.int .u16 E) ∧ DkAt w' p q S' O' ∧ Bd S' pages (c + 1) ∧ Go1 O w O' w' := by
  subst hlen
  have a1 := hb.len
  have a2 := hb.ws
  have a3 := hb.n2
  have a4 := hb.n3
  by_cases hbad : ¬ (0 ≤ pg ∧ pg < ((S.ls.length / 8 : Nat) : Int)) ∨ zs.length ≠ 1024 ∧ zs.length ≠ 128
  · refine (write_no p q O S pg a zs.length cap w h hbad (by omega)).mono ?_
    rintro e w' ⟨rfl, hd, hg⟩
    exact ⟨_, _, _, rfl, hd, hb.be rfl rfl (by show S.n2 + 1 ≤ _; omega) (by show S.n3 ≤ _; omega), hg⟩
  · obtain ⟨n, rfl⟩ : ∃ n : Nat, pg = (n : Int) := ⟨pg.toNat, by omega⟩
    have hz : zs ≠ [] := fun e => by rw [e] at hbad; simp at hbad
    rcases hin.row with h0 | ⟨b, off, rfl, hlt, hcell⟩
    · exact absurd h0 hz
    · have hN : ∃ N, zs.length = 1024 ∧ N = 8 ∨ zs.length = 128 ∧ N = 1 := by
        by_cases e : zs.length = 1024
        · exact ⟨8, .inl ⟨e, rfl⟩⟩
        · exact ⟨1, .inr ⟨by omega, rfl⟩⟩
      obtain ⟨N, hN⟩ := hN
      refine (write_any p q O S n b off zs.length cap zs N w h (hap hz _ rfl) (.inr ⟨b, off, rfl, hlt, hcell⟩) hlt rfl hin.byts hin.cap hin.max (by omega) (by omega) hN (by omega) (by omega)).mono ?_
      rintro e w' ⟨rfl, O', hd, hg⟩
      refine ⟨_, _, O', rfl, hd, ?_, hg⟩
      unfold DS.wr
      split
      · refine ⟨hb.len, ?_, ?_, ?_⟩
        · rw [DS.adds_len]; show S.ws.length + N ≤ _; omega
        · show S.n2 + 1 ≤ _; omega
        · show S.n3 ≤ _; omega
      · exact hb.be rfl rfl (by show S.n2 + 1 ≤ _; omega) (by show S.n3 ≤ _; omega)
theorem any_sync (h : DkAt w p q S O) (hb : Bd S pages c) (hc : c ≤ 1000) :
    Calls Try.prog 9 #[.pointer (some ⟨p, 0, none⟩)] w fun e w' => ∃ E S' O', e = .returned (.int .u16 E) ∧ DkAt w' p q S' O' ∧ Bd S' pages (c + 1) ∧ Go1 O w O' w' := by
  have a2 := hb.ws
  have a3 := hb.n2
  have a4 := hb.n3
  refine (sync_any p q O S w h (by omega)).mono ?_
  rintro e w' ⟨rfl, O', hd, hg⟩
  refine ⟨_, _, O', rfl, hd, ?_, hg⟩
  unfold DS.sy
  split
  · refine ⟨?_, ?_, ?_, ?_⟩
    · show (settled _ _ _ _).length = _; rw [settled_len]; exact hb.len
    · show 0 ≤ _; omega
    · show S.n2 ≤ _; omega
    · show S.n3 + 1 ≤ _; omega
  · exact hb.be rfl rfl (by show S.n2 ≤ _; omega) (by show S.n3 + 1 ≤ _; omega)
theorem any_cut (h : DkAt w p q S O) (hb : Bd S pages c) (ka : Option Addr) (kc : Nat) (bs : List Bool) (hk : BRow w ka bs) (hap : bs ≠ [] → ∀ ad, ka = some ad → ¬ O ad.block) (n : Nat) (hn : bs.length = n) (hl : n ≤ 9223372036854775807) :
    Calls Try.prog 10 #[.pointer (some ⟨p, 0, none⟩), .slice ka n kc] w fun e w' => ∃ S' O', e = .returned (.tuple #[]) ∧ DkAt w' p q S' O' ∧ Bd S' pages (c + 1) ∧ Go1 O w O' w' := by
  subst hn
  have a2 := hb.ws
  have a3 := hb.n2
  have a4 := hb.n3
  refine (cut_any p q O S ka kc bs w h hk hap (fun h0 => hk.lt h0) hl).mono ?_
  rintro e w' ⟨rfl, O', hd, hg⟩
  refine ⟨_, O', rfl, hd, ⟨?_, ?_, ?_, ?_⟩, hg⟩
  · show (settled _ _ _ _).length = _; rw [settled_len]; exact hb.len
  · show 0 ≤ _; omega
  · show S.n2 ≤ _; omega
  · show S.n3 ≤ _; omega
theorem any_trip (h : DkAt w p q S O) (hb : Bd S pages c) (n : Int) (hn : n ≤ 9223372036854775807) :
    Calls Try.prog 11 #[.pointer (some ⟨p, 0, none⟩), .int .i64 n] w fun e w' => ∃ E S' O', e = .returned (.int .u16 E) ∧ DkAt w' p q S' O' ∧ Bd S' pages (c + 1) ∧ Go1 O w O' w' := by
  by_cases hbad : n < 0 ∨ S.dk = true
  · refine (trip_no p q O S n w h hbad).mono ?_
    rintro e w' ⟨rfl, hb'⟩
    exact ⟨_, S, O, rfl, h.below hb', hb.mono (by omega), Go1.of_below hb'⟩
  · refine (trip_any p q O S n w h (by omega) hn (by cases hd : S.dk; rfl; exact absurd (.inr hd) hbad)).mono ?_
    rintro e w' ⟨rfl, hd, hg⟩
    exact ⟨_, _, O, rfl, hd, (Bd.mk hb.len hb.ws hb.n2 hb.n3 : Bd (S.trip n) pages c).mono (by omega), hg⟩
theorem any_fail (h : DkAt w p q S O) (hb : Bd S pages c) (f n : Int) (hn : n ≤ 9223372036854775807) :
    Calls Try.prog 12 #[.pointer (some ⟨p, 0, none⟩), .int .i64 f, .int .i64 n] w fun e w' => ∃ E S' O', e = .returned (.int .u16 E) ∧ DkAt w' p q S' O' ∧ Bd S' pages (c + 1) ∧ Go1 O w O' w' := by
  by_cases hbad : (f < 1 ∨ 3 < f ∨ n < 0) ∨ S.dk = true
  · refine (fail_no p q O S f n w h hbad).mono ?_
    rintro e w' ⟨rfl, hb'⟩
    exact ⟨_, S, O, rfl, h.below hb', hb.mono (by omega), Go1.of_below hb'⟩
  · have hdk : S.dk = false := by cases hd : S.dk; rfl; exact absurd (.inr hd) hbad
    have hf : f = 1 ∨ f = 2 ∨ f = 3 := by omega
    rcases hf with rfl | rfl | rfl
    · refine (fl1_any p q O S n w h (by omega) hn hdk).mono ?_
      rintro e w' ⟨rfl, hd, hg⟩
      exact ⟨_, _, O, rfl, hd, (Bd.mk hb.len hb.ws hb.n2 hb.n3 : Bd (S.fl1 n) pages c).mono (by omega), hg⟩
    · refine (fail2_any p q O S n w h (by omega) hn hdk).mono ?_
      rintro e w' ⟨rfl, hd, hg⟩
      exact ⟨_, _, O, rfl, hd, (Bd.mk hb.len hb.ws hb.n2 hb.n3 : Bd (S.fail2 n) pages c).mono (by omega), hg⟩
    · refine (fl3_any p q O S n w h (by omega) hn hdk).mono ?_
      rintro e w' ⟨rfl, hd, hg⟩
      exact ⟨_, _, O, rfl, hd, (Bd.mk hb.len hb.ws hb.n2 hb.n3 : Bd (S.fl3 n) pages c).mono (by omega), hg⟩
theorem secs (zs : List Int) : ∀ k, ((List.range k).map (sec zs)).flatten = zs.take (k * 128)
  | 0 => by simp
  | k + 1 => by
    rw [List.range_succ, List.map_append, List.flatten_append, secs zs k]
    simp only [List.map_cons, List.map_nil, List.flatten_cons, List.flatten_nil, List.append_nil]
    rw [Nat.add_mul, Nat.one_mul, List.take_add]
    rfl
theorem lsk_all (pg : Nat) (zs : List Int) (h : zs.length = 1024 * pg) : (lsk (8 * pg) zs (8 * pg)).flatten = zs := by
  have e : lsk (8 * pg) zs (8 * pg) = (List.range (8 * pg)).map (sec zs) := by
    unfold lsk
    apply List.map_congr_left
    intro i hi
    rw [if_pos (List.mem_range.1 hi)]
  rw [e, secs, List.take_of_length_le (by omega)]
end Go.Proofs.Ytfifpgkmgbenlaa
