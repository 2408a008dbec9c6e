/- The Go function DiskAlone answers true for every image and every list of acts, and leaves them as they were. No condition. -/
import Derived.Test.YtfifpgkmgbenlaaLN
import Derived.Deep.RegionHeld3
namespace Go.Proofs.Ytfifpgkmgbenlaa.Alone
open Go.RowKit Go.Maps
set_option linter.unusedVariables false

theorem Fd_base {w w1 w2 : World} {O : Nat → Prop} (hb : Below w.heap.size w w1) (hf : Fd w1.heap.size w1 w2 O) : Fd w.heap.size w w2 O :=
  ⟨hb.trans (hf.below.mono hb.size), Nat.le_trans hb.size hf.size, fun k hk => Nat.le_trans hb.size (hf.own k hk)⟩
theorem buildC (W : World) : (Instr.build 41 #[]).run Try.prog W = .ok (.agg #[.int .i64 0, .int .i64 0, .int .i64 0]) W := run_build W 41 _ _ (by kernel_rfl)
theorem eqC (W : World) : (binOp .eql 41 (.agg #[.int .i64 0, .int .i64 0, .int .i64 0]) (.agg #[.int .i64 0, .int .i64 0, .int .i64 0])).run Try.prog W = .ok (.bool true) W := by kernel_rfl
theorem inn_ap {w : World} {a : Option Addr} {n c : Nat} {zs : List Int} (h : Inn w a n c zs) {P : Nat → Prop} (hP : ∀ g, P g → w.heap.size ≤ g) : zs ≠ [] → ∀ ad, a = some ad → ¬ P ad.block := fun hne ad had hx => by
  rcases h.row with h0 | ⟨b1, off1, e1, hlt1, -⟩
  · exact hne h0
  · rw [e1] at had
    cases had
    have := hP _ hx
    simp only at this
    omega
theorem brow_ap {w : World} {a : Option Addr} {bs : List Bool} (h : BRow w a bs) {P : Nat → Prop} (hP : ∀ g, P g → w.heap.size ≤ g) : bs ≠ [] → ∀ ad, a = some ad → ¬ P ad.block := fun hne ad had hx => by
  have h1 := h.lt hne ad had
  have := hP _ hx
  omega
/-- one disk that is left alone, and another one. -/
structure Al (B : Nat) (w0 W : World) (dp dq : Nat) (Sd : DS) (Od : Nat → Prop) (cp cq : Nat) (S : DS) (O : Nat → Prop) (k : Nat) : Prop where
  d : DkAt W dp dq Sd Od
  c : DkAt W cp cq S O
  bd : Bd S 3 k
  ap : ∀ j, Od j → ¬ O j
  fd : Fd B w0 W O
theorem Al.go {B : Nat} {w0 W W' : World} {dp dq : Nat} {Sd : DS} {Od : Nat → Prop} {cp cq : Nat} {S S' : DS} {O O' : Nat → Prop} {k k' : Nat} (h : Al B w0 W dp dq Sd Od cp cq S O k) (hd : DkAt W' cp cq S' O') (hb : Bd S' 3 k') (hg : Go1 O W O' W') : Al B w0 W' dp dq Sd Od cp cq S' O' k' :=
  ⟨h.d.other hg.mv h.ap, hd, hb, fun j hj hx => (hg.own j hx).elim (h.ap j hj) (fun hl => by have := h.d.lt j hj; omega), h.fd.go hg⟩
theorem Al.on {B : Nat} {w0 W W' : World} {dp dq : Nat} {Sd : DS} {Od : Nat → Prop} {cp cq : Nat} {S : DS} {O : Nat → Prop} {k : Nat} (h : Al B w0 W dp dq Sd Od cp cq S O k) (hb : Below W.heap.size W W') : Al B w0 W' dp dq Sd Od cp cq S O k := h.go (h.c.below hb) h.bd (Go1.of_below hb)
set_option maxHeartbeats 12800000 in
set_option maxRecDepth 1000000 in
theorem walk (a : Option Addr) (n c : Nat) (zs : List Int) (b : Option Addr) (m e : Nat) (xs : List Ac) (w : World) (hi : Inn w a n c zs) (h : Acs w b m e xs) (hs : Sza xs) :
    Calls Try.prog 3 #[.slice a n c, .slice b m e] w fun e w' => e = .returned (.bool true) ∧ Below w.heap.size w w' := by
  have HI := hide hi
  have HE := hide h
  have HS := hide hs
  have hbc := buildC
  have hec := eqC
  have hn9 : n ≤ 9223372036854775807 := by have := hi.cap; have := hi.max; omega
  have hmm : m ≤ 140737488355328 := by have := hs.1; rwa [h.len] at this
  clear hi h hs
  by_cases hn : n ≤ 20000
  · have d1 : ¬ (20000 : Int) < (n : Int) := by omega
    by_cases hm : m ≤ 60
    · have d2 : ¬ (60 : Int) < (m : Int) := by omega
      by_cases hw : n % 1024 = 0 ∧ 1 ≤ n
      · obtain ⟨pgs, HPg, hp1, hp16⟩ : ∃ pgs, Hid (n = 1024 * pgs) ∧ 1 ≤ pgs ∧ pgs ≤ 16384 := ⟨n / 1024, by rw [Hid]; omega, by omega, by omega⟩
        obtain ⟨ib, io, hai, hrow⟩ : ∃ ib io, a = some ⟨ib, io, none⟩ ∧ Row w a zs := by
          rcases HI.out.row with h0 | ⟨ib, io, e1, hlt, hc⟩
          · have := HI.out.len
            rw [h0] at this
            simp at this
            omega
          · exact ⟨ib, io, e1, HI.out.row⟩
        subst hai
        have HRow := hide hrow
        have HLd : Hid (∀ W, Below w.heap.size w W → Calls Try.prog 6 #[.slice (some ⟨ib, io, none⟩) n c] W fun e w' => ∃ O p q, e = .returned (.tuple #[.pointer (some ⟨p, 0, none⟩), .int .u16 0]) ∧ DkAt w' p q ((DS.new (8 * pgs)).las (lsk (8 * pgs) zs (8 * pgs))) O ∧ Fd W.heap.size W w' O) := hide fun W hW => by
          have h := load_any pgs ib io c zs W hp1 hp16 (by rw [HI.out.len]; exact HPg.out) (HRow.out.below hW) HI.out.byts (by rw [← HPg.out]; exact HI.out.cap) HI.out.max
          rw [← HPg.out] at h
          exact h
        obtain ⟨Sd, HSd⟩ : ∃ X, Hid (X = (DS.new (8 * pgs)).las (lsk (8 * pgs) zs (8 * pgs))) := ⟨_, rfl⟩
        have HFl : Hid (Sd.ls.flatten = zs) := by rw [Hid, HSd.out]; exact lsk_all pgs zs (by rw [HI.out.len]; exact HPg.out)
        have HS0 : Hid (Sd.dk = false ∧ Sd.n1 = 0 ∧ Sd.n2 = 0 ∧ Sd.n3 = 0 ∧ Sd.ws = []) := by rw [Hid, HSd.out]; exact ⟨rfl, rfl, rfl, rfl, rfl⟩
        rw [← HSd.out] at HLd
        clear hw hrow hp1 hp16
        go_enter Try.func3, Try.ntmps3
        go_wp2_with fail
        refine (much_any b m e xs w HE.out HS.out).mono ?_
        rintro e1 w1 ⟨hmu, hb1⟩
        have HB1 := hide hb1
        clear hb1
        rcases hmu with rfl | rfl
        · go_wp2_with (go_at_call 5; refine (known_any _).mono ?_; rintro e w2 ⟨rfl, hb2⟩; have HB2 := hide (HB1.out.trans (hb2.mono HB1.out.size)); clear hb2)
          go_ret
          exact ⟨rfl, HB2.out⟩
        · go_wp2_with (go_at_call 5; refine (known_any _).mono ?_; rintro e w2 ⟨rfl, hb2⟩; have HB2 := hide (HB1.out.trans (hb2.mono HB1.out.size)); clear hb2)
          refine (HLd.out w2 HB2.out).mono ?_
          rintro ed w3 ⟨Od, dp, dq, rfl, hd3, hf3⟩
          have HF3 := hide (Fd_base HB2.out hf3)
          have HD3 := hide hd3
          clear hd3 hf3
          go_wp2_with fail
          refine (new_at 3 3 w3 rfl (by omega) (by omega)).mono ?_
          rintro ed w4 ⟨O4, cp, cq, rfl, hd4, hf4⟩
          have HA4 : Hid (Al w.heap.size w w4 dp dq Sd Od cp cq (DS.new (8 * 3)) O4 0) := hide ⟨HD3.out.below hf4.below, hd4, ⟨by simp [DS.new], by simp [DS.new], by simp [DS.new], by simp [DS.new]⟩, fun j hj hx => by have h1 := HD3.out.lt j hj; have h2 := hf4.own j hx; omega, ⟨HF3.out.below.trans (hf4.below.mono HF3.out.size), Nat.le_trans HF3.out.size hf4.size, fun j hj => Nat.le_trans HF3.out.size (hf4.own j hj)⟩⟩
          clear hd4 hf4
          go_wp2
          go_loopw [9] (fun i wr => ∃ (k : Nat) (S : DS) (O : Nat → Prop), k ≤ m ∧ i = .int .i64 (k : Int) ∧ Al w.heap.size w wr dp dq Sd Od cp cq S O k) (fun i _ => m - (intOf i).toNat)
          case atStart => exact ⟨0, _, _, Nat.zero_le _, rfl, HA4.out⟩
          case round =>
            obtain ⟨k, S, O, hk, rfl, hal⟩ := hrel
            have HA := hide hal
            clear hal
            by_cases hlt : k < m
            · obtain ⟨x, b1, off, hx, rfl, hbl, hat, hok⟩ := (HE.out.below HA.out.fd.below).at hlt
              have hOk := HE.out.each x (List.mem_of_getElem? hx)
              have HOk := hide hOk
              have hxk := hok.k
              have hxp := hok.pt.2
              obtain ⟨xl, HXl⟩ : ∃ l, Hid (l = x.db.length) := ⟨_, rfl⟩
              obtain ⟨yl, HYl⟩ : ∃ l, Hid (l = x.kb.length) := ⟨_, rfl⟩
              have hyl : yl ≤ 140737488355328 := by rw [HYl.out]; exact (HS.out.2 x (List.mem_of_getElem? hx)).2
              have HSt : Hid (∀ W, Below wr.heap.size wr W → x.At W b1 (off + k * 5)) := hide fun W hW => ⟨(hW.cell (p := ⟨b1, _, none⟩) hbl).trans hat.c0, (hW.cell (p := ⟨b1, _, none⟩) hbl).trans hat.c1, (hW.cell (p := ⟨b1, _, none⟩) hbl).trans hat.c2, (hW.cell (p := ⟨b1, _, none⟩) hbl).trans hat.c3, (hW.cell (p := ⟨b1, _, none⟩) hbl).trans hat.c4⟩
              obtain ⟨c0, c1, c2, c3, c4⟩ := hat
              rw [← HXl.out] at c3
              rw [← HYl.out] at c4
              have HBl : Hid (b1 < w.heap.size) := hide (by
                rcases HE.out.row with h0 | ⟨b2, off2, e2, hlt2, -⟩
                · rw [h0] at hx; simp at hx
                · cases e2; exact hlt2)
              clear hx hok hOk
              obtain ⟨kd, hkd, hk9⟩ : ∃ kd : Nat, kd < 9 ∧ (x.k : Int) % 9 = (kd : Int) := ⟨x.k % 9, by omega, by omega⟩
              have hcase : kd = 0 ∨ kd = 1 ∨ kd = 2 ∨ kd = 3 ∨ kd = 4 ∨ kd = 5 ∨ kd = 6 ∨ kd = 7 ∨ kd = 8 := by omega
              rcases hcase with rfl | rfl | rfl | rfl | rfl | rfl | rfl | rfl | rfl
              · have hk0 : (x.k : Int) % 9 = 0 := by omega
                clear hk9
                have HA5 : Hid (Al w.heap.size w wr dp dq Sd Od cp cq S O (k + 1)) := hide ⟨HA.out.d, HA.out.c, HA.out.bd.mono (by omega), HA.out.ap, HA.out.fd⟩
                go_wp2
                go_roundw
                case rel => exact ⟨k + 1, _, _, by omega, by go_num, HA5.out⟩
                case measure => simp [intOf]; omega
              · have hk0 : (x.k : Int) % 9 = 1 := by omega
                clear hk9
                have HAd := hide (HA.out.on (Below.refl _ _).drew)
                have HW := hide (any_write HAd.out.c HAd.out.bd (by omega) (by omega) x.pt x.da x.dc x.db (HOk.out.data.below HAd.out.fd.below) (inn_ap HOk.out.data HAd.out.fd.own) xl HXl.out.symm)
                have HSt2 : Hid (∀ W, Below wr.heap.size wr W → W.cell? ⟨b1, off + k * 5 + 1, none⟩ = some (.int .i64 x.pt) ∧ W.cell? ⟨b1, off + k * 5 + 3, none⟩ = some (.slice x.da xl x.dc)) := hide fun W hW => ⟨(HSt.out W hW).c1, by rw [HXl.out]; exact (HSt.out W hW).c3⟩
                go_wp2
                go_region_held3 (fun W => W.cell? ⟨b1, off + k * 5 + 1, none⟩ = some (.int .i64 x.pt) ∧ W.cell? ⟨b1, off + k * 5 + 3, none⟩ = some (.slice x.da xl x.dc)) ((first | (refine ⟨?_, ?_⟩ <;> assumption) | exact HSt2.out _ (Below.refl _ _).drew)) ((first | (go_at_call 8; refine HW.out.mono ?_; intro r' w5 hh; obtain ⟨E, S5, O5, rfl, hd5, hb5, hg5⟩ := hh; have HA5 := hide (HAd.out.go hd5 hb5 hg5); have HK5 : Hid (w5.cell? ⟨b1, off + k * 5 + 1, none⟩ = some (.int .i64 x.pt) ∧ w5.cell? ⟨b1, off + k * 5 + 3, none⟩ = some (.slice x.da xl x.dc)) := hide (by refine ⟨?_, ?_⟩ <;> (rw [World.cell?_of_block (hg5.mv.block b1 hbl (fun hx => by have h1 := HA.out.fd.own _ hx; have h2 := HBl.out; omega))]; assumption)); clear c1 c3 hd5 hb5 hg5; obtain ⟨c1, c3⟩ := HK5.out)))
                go_wp2
                go_roundw
                case rel => exact ⟨k + 1, _, _, by omega, by go_num, HA5.out⟩
                case measure => simp [intOf]; omega
              · have hk0 : (x.k : Int) % 9 = 2 := by omega
                clear hk9
                have HAd := hide (HA.out.on (Below.refl _ _).drew)
                have HW := hide (any_write HAd.out.c HAd.out.bd (by omega) (by omega) x.pt x.da x.dc x.db (HOk.out.data.below HAd.out.fd.below) (inn_ap HOk.out.data HAd.out.fd.own) xl HXl.out.symm)
                have HSt2 : Hid (∀ W, Below wr.heap.size wr W → W.cell? ⟨b1, off + k * 5 + 1, none⟩ = some (.int .i64 x.pt) ∧ W.cell? ⟨b1, off + k * 5 + 3, none⟩ = some (.slice x.da xl x.dc)) := hide fun W hW => ⟨(HSt.out W hW).c1, by rw [HXl.out]; exact (HSt.out W hW).c3⟩
                go_wp2
                go_region_held3 (fun W => W.cell? ⟨b1, off + k * 5 + 1, none⟩ = some (.int .i64 x.pt) ∧ W.cell? ⟨b1, off + k * 5 + 3, none⟩ = some (.slice x.da xl x.dc)) ((first | (refine ⟨?_, ?_⟩ <;> assumption) | exact HSt2.out _ (Below.refl _ _).drew)) ((first | (go_at_call 8; refine HW.out.mono ?_; intro r' w5 hh; obtain ⟨E, S5, O5, rfl, hd5, hb5, hg5⟩ := hh; have HA5 := hide (HAd.out.go hd5 hb5 hg5); have HK5 : Hid (w5.cell? ⟨b1, off + k * 5 + 1, none⟩ = some (.int .i64 x.pt) ∧ w5.cell? ⟨b1, off + k * 5 + 3, none⟩ = some (.slice x.da xl x.dc)) := hide (by refine ⟨?_, ?_⟩ <;> (rw [World.cell?_of_block (hg5.mv.block b1 hbl (fun hx => by have h1 := HA.out.fd.own _ hx; have h2 := HBl.out; omega))]; assumption)); clear c1 c3 hd5 hb5 hg5; obtain ⟨c1, c3⟩ := HK5.out)))
                go_wp2
                go_roundw
                case rel => exact ⟨k + 1, _, _, by omega, by go_num, HA5.out⟩
                case measure => simp [intOf]; omega
              · have hk0 : (x.k : Int) % 9 = 3 := by omega
                clear hk9
                go_wp2_with fail
                refine (any_sync HA.out.c HA.out.bd (by omega)).mono ?_
                rintro ed w5 ⟨E, S5, O5, rfl, hd5, hb5, hg5⟩
                have HA5 := hide (HA.out.go hd5 hb5 hg5)
                clear hd5 hb5 hg5
                go_wp2
                go_roundw
                case rel => exact ⟨k + 1, _, _, by omega, by go_num, HA5.out⟩
                case measure => simp [intOf]; omega
              · have hk0 : (x.k : Int) % 9 = 4 := by omega
                clear hk9
                go_wp2_with fail
                refine (any_cut HA.out.c HA.out.bd x.ka x.kc x.kb (brow_below HOk.out.keep HA.out.fd.below) (brow_ap HOk.out.keep HA.out.fd.own) yl HYl.out.symm (by omega)).mono ?_
                rintro ed w5 ⟨S5, O5, rfl, hd5, hb5, hg5⟩
                have HA5 := hide (HA.out.go hd5 hb5 hg5)
                clear hd5 hb5 hg5
                go_wp2
                go_roundw
                case rel => exact ⟨k + 1, _, _, by omega, by go_num, HA5.out⟩
                case measure => simp [intOf]; omega
              · have hk0 : (x.k : Int) % 9 = 5 := by omega
                clear hk9
                have HA5 : Hid (Al w.heap.size w wr dp dq Sd Od cp cq S O (k + 1)) := hide ⟨HA.out.d, HA.out.c, HA.out.bd.mono (by omega), HA.out.ap, HA.out.fd⟩
                go_wp2
                go_roundw
                case rel => exact ⟨k + 1, _, _, by omega, by go_num, HA5.out⟩
                case measure => simp [intOf]; omega
              · have hk0 : (x.k : Int) % 9 = 6 := by omega
                clear hk9
                have HA5 : Hid (Al w.heap.size w wr dp dq Sd Od cp cq S O (k + 1)) := hide ⟨HA.out.d, HA.out.c, HA.out.bd.mono (by omega), HA.out.ap, HA.out.fd⟩
                go_wp2
                go_roundw
                case rel => exact ⟨k + 1, _, _, by omega, by go_num, HA5.out⟩
                case measure => simp [intOf]; omega
              · have hk0 : (x.k : Int) % 9 = 7 := by omega
                clear hk9
                go_wp2_with fail
                refine (any_trip HA.out.c HA.out.bd x.pt hxp).mono ?_
                rintro ed w5 ⟨E, S5, O5, rfl, hd5, hb5, hg5⟩
                have HA5 := hide (HA.out.go hd5 hb5 hg5)
                clear hd5 hb5 hg5
                go_wp2
                go_roundw
                case rel => exact ⟨k + 1, _, _, by omega, by go_num, HA5.out⟩
                case measure => simp [intOf]; omega
              · have hk0 : (x.k : Int) % 9 = 8 := by omega
                clear hk9
                have HAd := hide (HA.out.on (Below.refl _ _).drew)
                have HW := hide (any_fail HAd.out.c HAd.out.bd x.of x.pt hxp)
                have HSt2 : Hid (∀ W, Below wr.heap.size wr W → W.cell? ⟨b1, off + k * 5 + 1, none⟩ = some (.int .i64 x.pt) ∧ W.cell? ⟨b1, off + k * 5 + 2, none⟩ = some (.int .i64 x.of)) := hide fun W hW => ⟨(HSt.out W hW).c1, (HSt.out W hW).c2⟩
                go_wp2
                go_region_held3 (fun W => W.cell? ⟨b1, off + k * 5 + 1, none⟩ = some (.int .i64 x.pt) ∧ W.cell? ⟨b1, off + k * 5 + 2, none⟩ = some (.int .i64 x.of)) ((first | (refine ⟨?_, ?_⟩ <;> assumption) | exact HSt2.out _ (Below.refl _ _).drew)) ((first | (go_at_call 12; refine HW.out.mono ?_; intro r' w5 hh; obtain ⟨E, S5, O5, rfl, hd5, hb5, hg5⟩ := hh; have HA5 := hide (HAd.out.go hd5 hb5 hg5); have HK5 : Hid (w5.cell? ⟨b1, off + k * 5 + 1, none⟩ = some (.int .i64 x.pt) ∧ w5.cell? ⟨b1, off + k * 5 + 2, none⟩ = some (.int .i64 x.of)) := hide (by refine ⟨?_, ?_⟩ <;> (rw [World.cell?_of_block (hg5.mv.block b1 hbl (fun hx => by have h1 := HA.out.fd.own _ hx; have h2 := HBl.out; omega))]; assumption)); clear c1 c2 hd5 hb5 hg5; obtain ⟨c1, c2⟩ := HK5.out)))
                go_wp2
                go_roundw
                case rel => exact ⟨k + 1, _, _, by omega, by go_num, HA5.out⟩
                case measure => simp [intOf]; omega
            · have hkm : ¬ (k : Int) < (m : Int) := by omega
              obtain ⟨z1, z2, z3, z4, z5⟩ := HS0.out
              go_wp2_with fail
              refine (dark_any dp dq Od Sd wr HA.out.d).mono ?_
              rw [z1]
              rintro ed w5 ⟨rfl, hb5⟩
              have HA5 := hide (HA.out.on hb5)
              clear hb5
              go_wp2_with fail
              refine (counts_any dp dq Od Sd w5 HA5.out.d).mono ?_
              rw [z2, z3, z4]
              rintro ed w6 ⟨rfl, hb6⟩
              have HA6 := hide (HA5.out.on hb6)
              clear hb6
              go_wp2_with fail
              refine (pending_any dp dq Od Sd w6 HA6.out.d).mono ?_
              rintro ed w7 ⟨v7, rfl, ho7, hn7, hb7⟩
              rw [z5] at ho7
              obtain ⟨a7, n7, c7, rfl, hl7⟩ := ownI_shape ho7
              have hl7' : n7 = 0 := by simpa using hl7.symm
              subst hl7'
              have HA7 := hide (HA6.out.on hb7)
              clear hb7 ho7 hn7 hl7
              go_wp2_with fail
              refine (image_any dp dq Od Sd w7 HA7.out.d).mono ?_
              rintro ed w8 ⟨v8, rfl, ho8, hn8, hb8⟩
              rw [HFl.out] at ho8
              have HA8 := hide (HA7.out.on hb8)
              obtain ⟨a8, c8, hv8, k1, k2, k3, k4, -⟩ := ho8.shape
              subst hv8
              have HSm := hide (sameb_any a8 (some ⟨ib, io, none⟩) zs.length n c8 c zs zs w8 rfl HI.out.len (by rw [HI.out.len]; exact hn9) hn9 k4 (HRow.out.below HA8.out.fd.below))
              rw [show sameB zs zs = true by simp [sameB]] at HSm
              obtain ⟨zl, HZl⟩ : ∃ l, Hid (l = zs.length) := ⟨_, rfl⟩
              rw [← HZl.out] at HSm ⊢
              clear hb8 ho8 hn8 k1 k2 k3 k4
              go_wp2_with fail
              refine HSm.out.mono ?_
              rintro ed w9 ⟨rfl, hb9⟩
              have HA9 := hide (HA8.out.on hb9)
              clear hb9
              go_wp2
              go_ret
              exact ⟨rfl, HA9.out.fd.below⟩
      · have HBad := hide hw
        clear hw
        go_enter Try.func3, Try.ntmps3
        go_wp2_with fail
        refine (much_any b m e xs w HE.out HS.out).mono ?_
        rintro e1 w1 ⟨hmu, hb1⟩
        have HB1 := hide hb1
        clear hb1
        rcases hmu with rfl | rfl
        · go_wp2_with (go_at_call 5; refine (known_any _).mono ?_; rintro e w2 ⟨rfl, hb2⟩; have HB2 := hide (HB1.out.trans (hb2.mono HB1.out.size)); clear hb2)
          go_ret
          exact ⟨rfl, HB2.out⟩
        · go_wp2_with (go_at_call 5; refine (known_any _).mono ?_; rintro e w2 ⟨rfl, hb2⟩; have HB2 := hide (HB1.out.trans (hb2.mono HB1.out.size)); clear hb2)
          refine (load_no a n c w2 hn HBad.out).mono ?_
          rintro ed w3 ⟨E, rfl, hE, hE', hb3⟩
          have HB3 := hide (HB2.out.trans (hb3.mono HB2.out.size))
          clear hb3
          go_wp2_with fail
          refine (new_at 3 3 w3 rfl (by omega) (by omega)).mono ?_
          rintro ed w4 ⟨O4, cp, cq, rfl, hd4, hf4⟩
          have HB4 := hide (HB3.out.trans (hf4.below.mono HB3.out.size))
          clear hd4 hf4
          go_wp2
          go_ret
          exact ⟨rfl, HB4.out⟩
    · have d2 : (60 : Int) < (m : Int) := by omega
      go_enter Try.func3, Try.ntmps3
      go_wp2_with (go_at_call 5; refine (known_any _).mono ?_; rintro e w2 ⟨rfl, hb2⟩; have HB2 := hide hb2; clear hb2)
      go_ret
      exact ⟨rfl, HB2.out⟩
  · have d1 : (20000 : Int) < (n : Int) := by omega
    go_enter Try.func3, Try.ntmps3
    go_wp2_with (go_at_call 5; refine (known_any _).mono ?_; rintro e w2 ⟨rfl, hb2⟩; have HB2 := hide hb2; clear hb2)
    go_ret
    exact ⟨rfl, HB2.out⟩
end Go.Proofs.Ytfifpgkmgbenlaa.Alone
