/- Any act; acts one behind the other. -/
import Derived.Test.YtkammfkknfflgaaUE
import Derived.Test.YtkammfkknfflgaaUF
import Derived.Test.YtkammfkknfflgaaUN
import Derived.Test.YtkammfkknfflgaaUG
import Derived.Test.YtkammfkknfflgaaUH
import Derived.Test.YtkammfkknfflgaaUI
import Derived.Test.YtkammfkknfflgaaUJ
import Derived.Test.YtkammfkknfflgaaUK
import Derived.Test.YtkammfkknfflgaaUL
namespace Go.Proofs.Ytkammfkknfflgaa
open Go.RowKit
set_option linter.unusedVariables false
theorem does_any (x : Ac) (w0 w : World) (pp p q r bq n m L M : Nat) (S : DS) (O O2 OB : Nat → Prop) (h : Pr w0.heap.size w0 w pp p q r bq n m S S O O2 OB) (hok : x.Ok w0) (hbd : Bd S L M) (hM : M ≤ 4000000) (hn : n ≤ 40000000) (hm : m ≤ 40000000) (hdl : x.db.length ≤ 2000000) (hkl : x.kb.length ≤ 2000000) :
    Calls Try.prog 26 #[.pointer (some ⟨pp, 0, none⟩), .agg (acv x)] w fun e w' => DoesOut x w0 pp p q r bq n m S e w' := by
  rcases (by omega : x.k % 9 = 0 ∨ x.k % 9 = 1 ∨ x.k % 9 = 2 ∨ x.k % 9 = 3 ∨ x.k % 9 = 4 ∨ x.k % 9 = 5 ∨ x.k % 9 = 6 ∨ x.k % 9 = 7 ∨ x.k % 9 = 8) with hx | hx | hx | hx | hx | hx | hx | hx | hx
  · exact does0 x hx w0 w pp p q r bq n m L M S O O2 OB h hok hbd hM hn hm hdl hkl
  · exact does1 x hx w0 w pp p q r bq n m L M S O O2 OB h hok hbd hM hn hm hdl hkl
  · exact does2 x hx w0 w pp p q r bq n m L M S O O2 OB h hok hbd hM hn hm hdl hkl
  · exact does3 x hx w0 w pp p q r bq n m L M S O O2 OB h hok hbd hM hn hm hdl hkl
  · exact does4 x hx w0 w pp p q r bq n m L M S O O2 OB h hok hbd hM hn hm hdl hkl
  · exact does5 x hx w0 w pp p q r bq n m L M S O O2 OB h hok hbd hM hn hm hdl hkl
  · exact does6 x hx w0 w pp p q r bq n m L M S O O2 OB h hok hbd hM hn hm hdl hkl
  · exact does7 x hx w0 w pp p q r bq n m L M S O O2 OB h hok hbd hM hn hm hdl hkl
  · exact does8 x hx w0 w pp p q r bq n m L M S O O2 OB h hok hbd hM hn hm hdl hkl
/-- the loop's state. -/
def Pl (w0 wr : World) (pp p q r bq L : Nat) (k : Nat) : Prop := ∃ (S : DS) (O O2 OB : Nat → Prop) (n m : Nat), Pr w0.heap.size w0 wr pp p q r bq n m S S O O2 OB ∧ Bd S L k ∧ n ≤ k + 1 ∧ m ≤ k
theorem rd_cells {w : World} {r : Nat} {S : DS} {O : Nat → Prop} (h : RdAt w r S O) : w.cell? ⟨r, 2, none⟩ = some (.bool S.dk) ∧ w.cell? ⟨r, 5, none⟩ = some (.int .i64 S.n1) ∧ w.cell? ⟨r, 6, none⟩ = some (.int .i64 S.n2) ∧ w.cell? ⟨r, 7, none⟩ = some (.int .i64 S.n3) := by
  obtain ⟨vl, Ls, vc, Cs, f, h, ho⟩ := h
  exact ⟨h.c 2 _ rfl, h.c 5 _ rfl, h.c 6 _ rfl, h.c 7 _ rfl⟩
theorem d_pages {w : World} {p q : Nat} {S : DS} {O : Nat → Prop} (h : DkAt w p q S O) : Calls Try.prog 28 #[.pointer (some ⟨p, 0, none⟩)] w fun e w' => e = .returned (.int .i64 ((S.ls.length / 8 : Nat) : Int)) ∧ Below w.heap.size w w' := by
  obtain ⟨vw, m, hd, ho⟩ := h
  exact pages_any p q S.ls.length w (hd.c 0 _ rfl) hd.good.most
theorem r_pages {w : World} {r : Nat} {S : DS} {O : Nat → Prop} (h : RdAt w r S O) : Calls Try.prog 29 #[.pointer (some ⟨r, 0, none⟩)] w fun e w' => e = .returned (.int .i64 ((S.ls.length / 8 : Nat) : Int)) ∧ w' = w := by
  obtain ⟨vl, Ls, vc, Cs, f, h, ho⟩ := h
  exact rpages_any h
set_option maxHeartbeats 6400000 in
set_option maxRecDepth 1000000 in
theorem plays_any (a : Option Addr) (N c : Nat) (xs : List Ac) (w0 w : World) (pp p q r bq L : Nat) (h : Pl w0 w pp p q r bq L 0) (ha : Acs w0 a N c xs) (hN : N ≤ 2000000) (hl : ∀ x ∈ xs, x.db.length ≤ 2000000 ∧ x.kb.length ≤ 2000000) :
    Calls Try.prog 9 #[.pointer (some ⟨pp, 0, none⟩), .slice a N c] w fun e w' => e = .returned (.bool true) ∧ Below w0.heap.size w0 w' := by
  have H := hide h
  have HA := hide ha
  have HL := hide hl
  clear h ha hl
  go_enter Try.func9, Try.ntmps9
  go_wp2
  go_loopw [5] (fun i wr => ∃ k : Nat, k ≤ N ∧ i = .int .i64 (k : Int) ∧ Pl w0 wr pp p q r bq L k) (fun i _ => N - (intOf i).toNat)
  case atStart => exact ⟨0, Nat.zero_le _, rfl, H.out⟩
  case round =>
    obtain ⟨k, hk, rfl, S, O, O2, OB, n, m, hp, hbd, hn, hm⟩ := hrel
    have HP := hide hp
    have HBd := hide hbd
    have HN1 := hide hn
    have HM1 := hide hm
    have c0 := hp.c0
    have c1 := hp.c1
    have c2 := hp.c2
    clear hp hbd hn hm H
    by_cases hlt : k < N
    · obtain ⟨x, b, off, hx, rfl, hbl, hat, hok⟩ := (HA.out.below HP.out.bel).at hlt
      have hxm := HL.out x (List.mem_of_getElem? hx)
      have hok0 := HA.out.each x (List.mem_of_getElem? hx)
      have HD : Hid (Calls Try.prog 26 #[.pointer (some ⟨pp, 0, none⟩), .agg #[.int .u8 (x.k : Int), .int .i64 x.pt, .int .i64 x.of, .slice x.da x.db.length x.dc, .slice x.ka x.kb.length x.kc]] wr fun e w' => DoesOut x w0 pp p q r bq n m S e w') := hide (does_any x w0 wr pp p q r bq n m L k S O O2 OB HP.out hok0 HBd.out (by omega) (by have := HN1.out; omega) (by have := HM1.out; omega) hxm.1 hxm.2)
      have a0 := hat.c0
      have a1 := hat.c1
      have a2 := hat.c2
      have a3 := hat.c3
      have a4 := hat.c4
      clear hx hxm hok0 hat hok hbl
      go_wp2_with fail
      refine HD.out.mono ?_
      rintro e' w2 ⟨rfl, n', m', O', O2', OB', hn', hm', hp'⟩
      obtain ⟨S', HS'⟩ : ∃ S', Hid (S' = stp S x) := ⟨_, rfl⟩
      rw [← HS'.out] at hp'
      have HB2 : Hid (Bd S' L (k + 1)) := hide (by rw [HS'.out]; exact stp_bd HBd.out x)
      have HP2 := hide hp'
      have HN2 := hide hn'
      have HM2 := hide hm'
      have CS : Hid (∀ W, Pr w0.heap.size w0 W pp p q r bq n' m' S' S' O' O2' OB' → (W.cell? ⟨pp, 0, none⟩ = some (.pointer (some ⟨p, 0, none⟩)) ∧ W.cell? ⟨pp, 1, none⟩ = some (.pointer (some ⟨r, 0, none⟩)) ∧ W.cell? ⟨r, 2, none⟩ = some (.bool S'.dk) ∧ W.cell? ⟨r, 5, none⟩ = some (.int .i64 S'.n1) ∧ W.cell? ⟨r, 6, none⟩ = some (.int .i64 S'.n2) ∧ W.cell? ⟨r, 7, none⟩ = some (.int .i64 S'.n3))) := hide (fun W hW => by
        obtain ⟨h1, h2, h3, h4⟩ := rd_cells hW.r
        exact ⟨hW.c0, hW.c1, h1, h2, h3, h4⟩)
      have HPd : Hid (Pr w0.heap.size w0 w2.drew pp p q r bq n' m' S' S' O' O2' OB') := hide (hp'.below (Below.refl _ _).drew)
      clear hp' hn' hm' HD a0 a1 a2 a3 a4 c0 c1 c2
      obtain ⟨b0, b1, b2, b3, b4, b5⟩ := CS.out _ HP2.out
      have e1 : (S'.dk != S'.dk) = false := by simp
      go_wp2_with fail
      go_region_held3 (fun W => W.cell? ⟨pp, 0, none⟩ = some (.pointer (some ⟨p, 0, none⟩)) ∧ W.cell? ⟨pp, 1, none⟩ = some (.pointer (some ⟨r, 0, none⟩)) ∧ W.cell? ⟨r, 2, none⟩ = some (.bool S'.dk) ∧ W.cell? ⟨r, 5, none⟩ = some (.int .i64 S'.n1) ∧ W.cell? ⟨r, 6, none⟩ = some (.int .i64 S'.n2) ∧ W.cell? ⟨r, 7, none⟩ = some (.int .i64 S'.n3)) ((first | (refine ⟨?_, ?_, ?_, ?_, ?_, ?_⟩ <;> assumption) | exact CS.out _ HPd.out)) ((first | (go_at_call 27; refine (dark_any p q O' S' _ HPd.out.d).mono ?_; intro r' w3 hh; obtain ⟨rfl, hb3⟩ := hh; have HP3 := hide (HPd.out.below hb3); clear hb3 b0 b1 b2 b3 b4 b5; obtain ⟨b0, b1, b2, b3, b4, b5⟩ := CS.out _ HP3.out) | (go_at_call 24; refine (counts_any p q O' S' _ HP3.out.d).mono ?_; intro r' w4 hh; obtain ⟨rfl, hb4⟩ := hh; have HP4 := hide (HP3.out.below hb4); clear hb4 b0 b1 b2 b3 b4 b5; obtain ⟨b0, b1, b2, b3, b4, b5⟩ := CS.out _ HP4.out)))
      go_wp2
      go_roundw
      case rel => exact ⟨k + 1, by omega, by go_num, S', O', O2', OB', n', m', HP4.out, HB2.out, (by have := HN1.out; have := HN2.out; omega), (by have := HM1.out; have := HM2.out; omega)⟩
      case measure => simp [intOf]; omega
    · have HPd : Hid (Pr w0.heap.size w0 wr.drew pp p q r bq n m S S O O2 OB) := hide (HP.out.below (Below.refl _ _).drew)
      obtain ⟨G, HG⟩ : ∃ G : Nat, Hid (G = S.ls.length / 8) := ⟨_, rfl⟩
      have HDP : Hid (∀ W, Pr w0.heap.size w0 W pp p q r bq n m S S O O2 OB → Calls Try.prog 28 #[.pointer (some ⟨p, 0, none⟩)] W fun e w' => e = .returned (.int .i64 (G : Int)) ∧ Below W.heap.size W w') := hide (fun W hW => by rw [HG.out]; exact d_pages hW.d)
      have HRP : Hid (∀ W, Pr w0.heap.size w0 W pp p q r bq n m S S O O2 OB → Calls Try.prog 29 #[.pointer (some ⟨r, 0, none⟩)] W fun e w' => e = .returned (.int .i64 (G : Int)) ∧ w' = W) := hide (fun W hW => by rw [HG.out]; exact r_pages hW.r)
      have e1 : ((G : Int) == (G : Int)) = true := by simp
      go_wp2_with fail
      go_region_held3 (fun W => W.cell? ⟨pp, 0, none⟩ = some (.pointer (some ⟨p, 0, none⟩)) ∧ W.cell? ⟨pp, 1, none⟩ = some (.pointer (some ⟨r, 0, none⟩)) ∧ W.cell? ⟨pp, 2, none⟩ = some (.pointer (some ⟨bq, 0, none⟩))) ((first | (refine ⟨?_, ?_, ?_⟩ <;> assumption) | exact ⟨HPd.out.c0, HPd.out.c1, HPd.out.c2⟩)) ((first | (go_at_call 28; refine (HDP.out _ HPd.out).mono ?_; intro r' w3 hh; obtain ⟨rfl, hb3⟩ := hh; have HP3 := hide (HPd.out.below hb3); clear hb3 c0 c1 c2; obtain ⟨c0, c1, c2⟩ := (show _ ∧ _ ∧ _ from ⟨HP3.out.c0, HP3.out.c1, HP3.out.c2⟩)) | (go_at_call 29; refine (HRP.out _ HP3.out).mono ?_; intro r' w4 hh; obtain ⟨rfl, hb4⟩ := hh; cases hb4) | (go_at_call 30; refine (bk_own bq n m OB _ HP3.out.b (by have := HN1.out; omega) (by have := HM1.out; omega)).mono ?_; intro r' w5 hh; obtain ⟨rfl, hm5⟩ := hh; have HB5 := hide (mv_bel HP3.out.bel hm5 HP3.out.Bsz HP3.out.lo.2.2.2); have hbk5 := hm5.block pp HP3.out.size HP3.out.pb; clear hm5 c0 c1 c2; have c0 := (show w5.cell? ⟨pp, 0, none⟩ = w3.cell? ⟨pp, 0, none⟩ by simp only [World.cell?, hbk5]).trans HP3.out.c0; have c1 := (show w5.cell? ⟨pp, 1, none⟩ = w3.cell? ⟨pp, 1, none⟩ by simp only [World.cell?, hbk5]).trans HP3.out.c1; have c2 := (show w5.cell? ⟨pp, 2, none⟩ = w3.cell? ⟨pp, 2, none⟩ by simp only [World.cell?, hbk5]).trans HP3.out.c2; clear hbk5)))
      go_wp2
      go_ret
      exact ⟨rfl, HB5.out⟩
end Go.Proofs.Ytkammfkknfflgaa
