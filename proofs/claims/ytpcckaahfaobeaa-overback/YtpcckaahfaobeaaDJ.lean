/- What a write does, where nothing is in its way. -/
import Derived.Test.YtpcckaahfaobeaaDH
import Derived.Deep.RegionHeld3
namespace Go.Proofs.Ytpcckaahfaobeaa
open Go.RowKit Go.Maps
set_option linter.unusedVariables false

/-- the i-th sector of bytes. -/
def sec (zs : List Int) (i : Nat) : List Int := (zs.drop (i * 128)).take 128
/-- k sectors more in the cache, from the number b on. -/
def DS.adds (S : DS) (b : Nat) (zs : List Int) (k : Nat) : DS := { S with ws := S.ws ++ (List.range k).map fun i => (b + i, sec zs i) }
theorem DS.adds_zero (S : DS) (b : Nat) (zs : List Int) : S.adds b zs 0 = S := by simp [DS.adds]
theorem DS.adds_succ (S : DS) (b : Nat) (zs : List Int) (k : Nat) : S.adds b zs (k + 1) = (S.adds b zs k).add (b + k) (sec zs k) := by
  simp [DS.adds, DS.add, List.range_succ]
theorem DS.adds_len (S : DS) (b : Nat) (zs : List Int) (k : Nat) : (S.adds b zs k).ws.length = S.ws.length + k := by simp [DS.adds]
theorem sec_len (zs : List Int) (i : Nat) (h : i * 128 + 128 ≤ zs.length) : (sec zs i).length = 128 := by simp [sec]; omega
theorem sec_byts {zs : List Int} (h : Byts zs) (i : Nat) : Byts (sec zs i) := (h.drop _).take _
theorem Mv.drew {O : Nat → Prop} {w w' : World} (h : Mv O w w') : Mv O w w'.drew := ⟨h.os, h.tape, h.output, h.size, h.block⟩
theorem Go1.drew {O O' : Nat → Prop} {w w' : World} (h : Go1 O w O' w') : Go1 O w O' w'.drew := ⟨h.mv.drew, h.own⟩
theorem Mv.cell {O : Nat → Prop} {w w' : World} (h : Mv O w w') {b o : Nat} {v : Value} (hc : w.cell? ⟨b, o, none⟩ = some v) (ho : ¬ O b) : w'.cell? ⟨b, o, none⟩ = some v := by
  rw [World.cell?_of_block (w := w) (h.block b (World.block_lt_of_cell? w _ hc) ho)]; exact hc
theorem Mv.row {O : Nat → Prop} {w w' : World} (h : Mv O w w') {b o : Nat} {zs : List Int} (hr : Row w (some ⟨b, o, none⟩) zs) (ho : ¬ O b) : Row w' (some ⟨b, o, none⟩) zs := by
  rcases hr with hr | ⟨b', off, e, hlt, hc⟩
  · exact .inl hr
  · cases e
    exact .inr ⟨b, o, rfl, Nat.lt_of_lt_of_le hlt h.size, fun i hi => h.cell (hc i hi) ho⟩

set_option maxHeartbeats 3200000 in
set_option maxRecDepth 1000000 in
/-- bytes of a page or a sector, a page that is there. -/
theorem writes_any (p q : Nat) (vw : Value) (m : Option Nat) (S : DS) (k0 k1 k2 : Nat) (pg : Nat) (b off len cap : Nat) (zs : List Int) (N : Nat) (w : World) (h : Dk w p q vw m S)
    (c0 : w.cell? ⟨k0, 0, none⟩ = some (.pointer (some ⟨p, 0, none⟩))) (c1 : w.cell? ⟨k1, 0, none⟩ = some (.int .i64 (pg : Int))) (c2 : w.cell? ⟨k2, 0, none⟩ = some (.slice (some ⟨b, off, none⟩) len cap))
    (o0 : ¬ Ow p q vw m k0) (o1 : ¬ Ow p q vw m k1) (o2 : ¬ Ow p q vw m k2) (ob : ¬ Ow p q vw m b) (hr : Row w (some ⟨b, off, none⟩) zs) (hz : zs.length = len) (hby : Byts zs) (hlc : len ≤ cap) (hcm : cap ≤ 9223372036854775807)
    (hpg : pg < S.ls.length / 8) (hl8 : S.ls.length % 8 = 0) (hN : len = 1024 ∧ N = 8 ∨ len = 128 ∧ N = 1) (hf : S.ws.length + 8 ≤ 1000000) :
    Calls Try.prog 37 #[.pointer (some ⟨k0, 0, none⟩), .pointer (some ⟨k1, 0, none⟩), .pointer (some ⟨k2, 0, none⟩)] w fun e w' => e = .returned (.int .u16 0) ∧ ∃ vw' m', Dk w' p q vw' m' (S.adds (8 * pg) zs N) ∧ Go1 (Ow p q vw m) w (Ow p q vw' m') w' := by
  have HD := hide h
  have HK : Hid (∀ W, Mv (Ow p q vw m) w W → W.cell? ⟨k0, 0, none⟩ = some (.pointer (some ⟨p, 0, none⟩)) ∧ W.cell? ⟨k1, 0, none⟩ = some (.int .i64 (pg : Int)) ∧ W.cell? ⟨k2, 0, none⟩ = some (.slice (some ⟨b, off, none⟩) len cap)) := fun W hm => ⟨hm.cell c0 o0, hm.cell c1 o1, hm.cell c2 o2⟩
  have HRw : Hid (∀ W, Mv (Ow p q vw m) w W → Row W (some ⟨b, off, none⟩) zs) := fun W hm => hm.row hr ob
  have HZ := hide hz
  have HBy := hide hby
  have HG := hide h.good
  have k00 := h.c 0 (.slice (some ⟨q, 0, none⟩) S.ls.length S.ls.length) rfl
  have Hhas := hide (has_any p q S.ls.length (pg : Int) w k00 h.good.most)
  have hdec : decide (0 ≤ (pg : Int) ∧ (pg : Int) < ((S.ls.length / 8 : Nat) : Int)) = true := by simp only [decide_eq_true_eq]; omega
  rw [hdec] at Hhas
  have Hpn : Hid (8 * pg + 8 ≤ S.ls.length) := by rw [Hid]; omega
  have hpb : pg ≤ 131072 := by have := h.good.most; omega
  have Hf := hide hf
  clear h o0 o1 o2 ob hr hz hby k00 hdec hpg hl8
  rcases hN with ⟨rfl, rfl⟩ | ⟨rfl, rfl⟩
  · go_enter Try.func37, Try.ntmps37
    go_wp2_with fail
    refine Hhas.out.mono ?_
    rintro e w1 ⟨rfl, hb1⟩
    have HM1 := hide (Go1.of_below (O := Ow p q vw m) hb1)
    have HD1 := hide (HD.out.below hb1)
    clear hb1 c0 c1 c2
    obtain ⟨c0, c1, c2⟩ := HK.out w1 HM1.out.mv
    go_wp2
    clear c0 c1 c2
    go_loopw [20] (fun i wr' => ∃ (k : Nat) (vw' : Value) (m' : Option Nat), k ≤ 8 ∧ i = .int .i64 (k : Int) ∧ Dk wr' p q vw' m' (S.adds (8 * pg) zs k) ∧ Go1 (Ow p q vw m) w (Ow p q vw' m') wr') (fun i _ => 8 - (intOf i).toNat)
    case atStart => exact ⟨0, vw, m, Nat.zero_le _, rfl, by rw [DS.adds_zero]; exact HD1.out, HM1.out⟩
    case round =>
      obtain ⟨k, vw', m', hk, rfl, hd, hg⟩ := hrel
      have HDr := hide hd
      have HGr := hide hg
      clear hd hg
      by_cases hlt : k < 8
      · have HS : Hid (∀ W, Row W (some ⟨b, off, none⟩) zs → Calls Try.prog 40 #[.slice (some ⟨b, off, none⟩) 1024 cap, .int .i64 (k : Int)] W fun e w' => e = .returned (.agg (sv (sec zs k)).toArray) ∧ Below W.heap.size W w') := fun W hr => sectorAt_any b off 1024 cap zs k W hr HZ.out hlc hcm (by omega)
        have hnn : ((8 * pg + k : Nat) : Int) = 8 * (pg : Int) + (k : Int) := by omega
        have HAd : Hid (∀ W vx mx, Dk W p q vx mx (S.adds (8 * pg) zs k) → Calls Try.prog 39 #[.pointer (some ⟨p, 1, none⟩), .int .i64 (8 * (pg : Int) + (k : Int)), .agg (sv (sec zs k)).toArray] W fun e w' => e = .returned (.tuple #[]) ∧ ∃ vw' m', Dk w' p q vw' m' (S.adds (8 * pg) zs (k + 1)) ∧ Go1 (Ow p q vx mx) W (Ow p q vw' m') w') := fun W vx mx h => by
          rw [← hnn, DS.adds_succ]
          exact add_any p q vx mx (S.adds (8 * pg) zs k) (8 * pg + k) (sec zs k) W h (by have := Hpn.out; show 8 * pg + k < S.ls.length; omega) (sec_len zs k (by rw [HZ.out]; omega)) (sec_byts HBy.out k) (by rw [DS.adds_len]; have := Hf.out; omega)
        clear hnn
        have hx1 : IntKind.i64.wrap ((pg : Int) * 8) = (pg : Int) * 8 := by rw [IntKind.wrap_i64]; omega
        have hx2 : IntKind.i64.wrap ((pg : Int) * 8 + (k : Int)) = 8 * (pg : Int) + (k : Int) := by rw [IntKind.wrap_i64]; omega
        have HGd := hide (Go1.drew HGr.out)
        have HDd := hide (HDr.out.below (Below.refl _ _).drew)
        obtain ⟨c0, c1, c2⟩ := HK.out wr.drew HGd.out.mv
        go_wp2
        go_region_held3 (fun W => W.cell? ⟨k0, 0, none⟩ = some (.pointer (some ⟨p, 0, none⟩)) ∧ W.cell? ⟨k1, 0, none⟩ = some (.int .i64 (pg : Int)) ∧ W.cell? ⟨k2, 0, none⟩ = some (.slice (some ⟨b, off, none⟩) 1024 cap)) ((refine ⟨?_, ?_, ?_⟩ <;> assumption)) ((first | (go_at_call 40; refine (HS.out _ (HRw.out _ HGd.out.mv)).mono ?_; intro r' w2 hh; obtain ⟨rfl, hb2⟩ := hh; have HD2 := hide (HDd.out.below hb2); have HG2 := hide (HGd.out.trans (Go1.of_below hb2)); clear hb2 c0 c1 c2; obtain ⟨c0, c1, c2⟩ := HK.out w2 HG2.out.mv) | (go_at_call 39; refine (HAd.out _ _ _ HD2.out).mono ?_; intro r' w3 hh; obtain ⟨rfl, vw3, m3, hd3, hg3⟩ := hh; have HD3 := hide hd3; have HG3 := hide (HG2.out.trans hg3); clear hd3 hg3 c0 c1 c2; obtain ⟨c0, c1, c2⟩ := HK.out w3 HG3.out.mv)))
        go_wp2
        go_roundw
        case rel => exact ⟨k + 1, vw3, m3, by omega, by go_num, HD3.out, HG3.out⟩
        case measure => simp [intOf]; omega
      · have e : k = 8 := by omega
        subst e
        go_wp2
        go_ret
        exact ⟨rfl, vw', m', HDr.out, HGr.out⟩
  · go_enter Try.func37, Try.ntmps37
    go_wp2_with fail
    refine Hhas.out.mono ?_
    rintro e w1 ⟨rfl, hb1⟩
    have HM1 := hide (Go1.of_below (O := Ow p q vw m) hb1)
    have HD1 := hide (HD.out.below hb1)
    clear hb1 c0 c1 c2
    obtain ⟨c0, c1, c2⟩ := HK.out w1 HM1.out.mv
    go_wp2
    clear c0 c1 c2
    go_loopw [20] (fun i wr' => ∃ (k : Nat) (vw' : Value) (m' : Option Nat), k ≤ 1 ∧ i = .int .i64 (k : Int) ∧ Dk wr' p q vw' m' (S.adds (8 * pg) zs k) ∧ Go1 (Ow p q vw m) w (Ow p q vw' m') wr') (fun i _ => 1 - (intOf i).toNat)
    case atStart => exact ⟨0, vw, m, Nat.zero_le _, rfl, by rw [DS.adds_zero]; exact HD1.out, HM1.out⟩
    case round =>
      obtain ⟨k, vw', m', hk, rfl, hd, hg⟩ := hrel
      have HDr := hide hd
      have HGr := hide hg
      clear hd hg
      by_cases hlt : k < 1
      · have HS : Hid (∀ W, Row W (some ⟨b, off, none⟩) zs → Calls Try.prog 40 #[.slice (some ⟨b, off, none⟩) 128 cap, .int .i64 (k : Int)] W fun e w' => e = .returned (.agg (sv (sec zs k)).toArray) ∧ Below W.heap.size W w') := fun W hr => sectorAt_any b off 128 cap zs k W hr HZ.out hlc hcm (by omega)
        have hnn : ((8 * pg + k : Nat) : Int) = 8 * (pg : Int) + (k : Int) := by omega
        have HAd : Hid (∀ W vx mx, Dk W p q vx mx (S.adds (8 * pg) zs k) → Calls Try.prog 39 #[.pointer (some ⟨p, 1, none⟩), .int .i64 (8 * (pg : Int) + (k : Int)), .agg (sv (sec zs k)).toArray] W fun e w' => e = .returned (.tuple #[]) ∧ ∃ vw' m', Dk w' p q vw' m' (S.adds (8 * pg) zs (k + 1)) ∧ Go1 (Ow p q vx mx) W (Ow p q vw' m') w') := fun W vx mx h => by
          rw [← hnn, DS.adds_succ]
          exact add_any p q vx mx (S.adds (8 * pg) zs k) (8 * pg + k) (sec zs k) W h (by have := Hpn.out; show 8 * pg + k < S.ls.length; omega) (sec_len zs k (by rw [HZ.out]; omega)) (sec_byts HBy.out k) (by rw [DS.adds_len]; have := Hf.out; omega)
        clear hnn
        have hx1 : IntKind.i64.wrap ((pg : Int) * 8) = (pg : Int) * 8 := by rw [IntKind.wrap_i64]; omega
        have hx2 : IntKind.i64.wrap ((pg : Int) * 8 + (k : Int)) = 8 * (pg : Int) + (k : Int) := by rw [IntKind.wrap_i64]; omega
        have HGd := hide (Go1.drew HGr.out)
        have HDd := hide (HDr.out.below (Below.refl _ _).drew)
        obtain ⟨c0, c1, c2⟩ := HK.out wr.drew HGd.out.mv
        go_wp2
        go_region_held3 (fun W => W.cell? ⟨k0, 0, none⟩ = some (.pointer (some ⟨p, 0, none⟩)) ∧ W.cell? ⟨k1, 0, none⟩ = some (.int .i64 (pg : Int)) ∧ W.cell? ⟨k2, 0, none⟩ = some (.slice (some ⟨b, off, none⟩) 128 cap)) ((refine ⟨?_, ?_, ?_⟩ <;> assumption)) ((first | (go_at_call 40; refine (HS.out _ (HRw.out _ HGd.out.mv)).mono ?_; intro r' w2 hh; obtain ⟨rfl, hb2⟩ := hh; have HD2 := hide (HDd.out.below hb2); have HG2 := hide (HGd.out.trans (Go1.of_below hb2)); clear hb2 c0 c1 c2; obtain ⟨c0, c1, c2⟩ := HK.out w2 HG2.out.mv) | (go_at_call 39; refine (HAd.out _ _ _ HD2.out).mono ?_; intro r' w3 hh; obtain ⟨rfl, vw3, m3, hd3, hg3⟩ := hh; have HD3 := hide hd3; have HG3 := hide (HG2.out.trans hg3); clear hd3 hg3 c0 c1 c2; obtain ⟨c0, c1, c2⟩ := HK.out w3 HG3.out.mv)))
        go_wp2
        go_roundw
        case rel => exact ⟨k + 1, vw3, m3, by omega, by go_num, HD3.out, HG3.out⟩
        case measure => simp [intOf]; omega
      · have e : k = 1 := by omega
        subst e
        go_wp2
        go_ret
        exact ⟨rfl, vw', m', HDr.out, HGr.out⟩
end Go.Proofs.Ytpcckaahfaobeaa
/- Write. -/
namespace Go.Proofs.Ytpcckaahfaobeaa
open Go.RowKit Go.Maps
set_option linter.unusedVariables false

theorem hmf (fn : Fn) (first cap : Array Value) (w : World) : (Instr.makeFunc fn first cap).run Try.prog w = .ok (.func fn first cap) w := rfl
/-- a disk behind a write of a page that is there. -/
def DS.wr (S : DS) (pg : Nat) (zs : List Int) (N : Nat) : DS := if S.er S.s2 S.l2 = 0 then S.op2.adds (8 * pg) zs N else S.be S.op2
theorem Go1.of_mv {O : Nat → Prop} {p : Nat} {w w' : World} (h : Mv (· = p) w w') (ho : O p) : Go1 O w O w' :=
  ⟨⟨h.os, h.tape, h.output, h.size, fun k hk hn => h.block k hk (fun e => hn (by rw [e]; exact ho))⟩, fun _ h => .inl h⟩
theorem DS.be_good {S : DS} (h : S.Good) {S' : DS} (h' : S'.Good) : (S.be S').Good := by
  unfold DS.be
  split
  · exact h
  · split
    · exact h.out
    · exact h'
theorem cell_new (w : World) (v : Value) (t : TypeId) : (w.alloc (.cells #[v] t)).cell? ⟨w.heap.size, 0, none⟩ = some v := by
  rw [cell_of_row _ _ 0 _ t (0, 0) (heap_alloc_new w _)]; rfl
theorem cell_old {w : World} {b o : Nat} {v : Value} (h : w.cell? ⟨b, o, none⟩ = some v) (ob : Obj) : (w.alloc ob).cell? ⟨b, o, none⟩ = some v := by
  rw [World.cell?_of_block (w := w) (Below.heap_alloc w ob b (World.block_lt_of_cell? w _ h))]; exact h

set_option maxHeartbeats 1600000 in
set_option maxRecDepth 1000000 in
theorem write_any (p q : Nat) (O : Nat → Prop) (S : DS) (pg : Nat) (b off len cap : Nat) (zs : List Int) (N : Nat) (w : World) (h : DkAt w p q S O)
    (ob : ¬ O b) (hr : Row w (some ⟨b, off, none⟩) zs) (hbl : b < w.heap.size) (hz : zs.length = len) (hby : Byts zs) (hlc : len ≤ cap) (hcm : cap ≤ 9223372036854775807)
    (hpg : pg < S.ls.length / 8) (hl8 : S.ls.length % 8 = 0) (hN : len = 1024 ∧ N = 8 ∨ len = 128 ∧ N = 1) (hf : S.ws.length + 8 ≤ 1000000) (hn : S.n2 + 1 ≤ 1000000) :
    Calls Try.prog 22 #[.pointer (some ⟨p, 0, none⟩), .int .i64 (pg : Int), .slice (some ⟨b, off, none⟩) len cap] w fun e w' => e = .returned (.int .u16 (S.er S.s2 S.l2 : Int)) ∧ ∃ O', DkAt w' p q (S.wr pg zs N) O' ∧ Go1 O w O' w' := by
  obtain ⟨vw, m, hd, ho⟩ := h
  have hlt : ∀ k, Ow p q vw m k → k < w.heap.size := hd.lt
  have nO : ∀ k, w.heap.size ≤ k → ¬ Ow p q vw m k := fun k hk h => by have := hlt k h; omega
  obtain ⟨W3, hW3⟩ : ∃ W3, W3 = ((w.alloc (.cells #[.pointer (some ⟨p, 0, none⟩)] 25)).alloc (.cells #[.int .i64 (pg : Int)] 3)).alloc (.cells #[.slice (some ⟨b, off, none⟩) len cap] 22) := ⟨_, rfl⟩
  have s1 := size_al w (.cells #[.pointer (some ⟨p, 0, none⟩)] 25)
  have s2 := size_al (w.alloc (.cells #[.pointer (some ⟨p, 0, none⟩)] 25)) (.cells #[.int .i64 (pg : Int)] 3)
  have hb3 : Below w.heap.size w W3 := by
    rw [hW3]
    exact (below_alloc w _).trans (((below_alloc _ _).mono (by omega)).trans ((below_alloc _ _).mono (by omega)))
  have c0 : W3.cell? ⟨w.heap.size, 0, none⟩ = some (.pointer (some ⟨p, 0, none⟩)) := by rw [hW3]; exact cell_old (cell_old (cell_new _ _ _) _) _
  have c1 : W3.cell? ⟨w.heap.size + 1, 0, none⟩ = some (.int .i64 (pg : Int)) := by rw [hW3]; have := cell_old (cell_new (w.alloc (.cells #[.pointer (some ⟨p, 0, none⟩)] 25)) (.int .i64 (pg : Int)) 3) (.cells #[.slice (some ⟨b, off, none⟩) len cap] 22); rwa [s1] at this
  have c2 : W3.cell? ⟨w.heap.size + 2, 0, none⟩ = some (.slice (some ⟨b, off, none⟩) len cap) := by rw [hW3]; have := cell_new ((w.alloc (.cells #[.pointer (some ⟨p, 0, none⟩)] 25)).alloc (.cells #[.int .i64 (pg : Int)] 3)) (.slice (some ⟨b, off, none⟩) len cap) 22; rwa [s2, s1] at this
  have HOp := hide (operate2 p q vw m S W3 (.pointer (some ⟨w.heap.size, 0, none⟩)) (.pointer (some ⟨w.heap.size + 1, 0, none⟩)) (.pointer (some ⟨w.heap.size + 2, 0, none⟩))
    (fun x w' => x = (S.er S.s2 S.l2 : Int) ∧ ∃ O', DkAt w' p q (S.wr pg zs N) O' ∧ Go1 O w O' w') (hd.below hb3) hn
    (fun he W hdW hm hs => by
      have hg0 : Go1 (Ow p q vw m) w (Ow p q vw m) W := (Go1.of_below hb3).trans (Go1.of_mv hm (.inl rfl))
      have hm' : Mv (Ow p q vw m) W3 W := (Go1.of_mv hm (.inl rfl)).mv
      refine (writes_any p q vw m S.op2 w.heap.size (w.heap.size + 1) (w.heap.size + 2) pg b off len cap zs N W hdW (hm'.cell c0 (nO _ (Nat.le_refl _))) (hm'.cell c1 (nO _ (by omega))) (hm'.cell c2 (nO _ (by omega))) (nO _ (Nat.le_refl _)) (nO _ (by omega)) (nO _ (by omega)) (fun h => ob ((ho b).2 h)) (hg0.mv.row hr (fun h => ob ((ho b).2 h))) hz hby hlc hcm hpg hl8 hN hf).mono ?_
      rintro e w' ⟨rfl, vw', m', hd', hg'⟩
      refine ⟨0, rfl, by rw [he]; rfl, Ow p q vw' m', ⟨vw', m', by rw [DS.wr, if_pos he]; exact hd', fun _ => Iff.rfl⟩, ?_⟩
      have := hg0.trans hg'
      exact ⟨⟨this.mv.os, this.mv.tape, this.mv.output, this.mv.size, fun k hk hn => this.mv.block k hk (fun h => hn ((ho k).2 h))⟩, fun k hk => (this.own k hk).imp (fun h => (ho k).2 h) id⟩)
    (fun he W hdW hm hs => by
      have hg0 : Go1 (Ow p q vw m) w (Ow p q vw m) W := (Go1.of_below hb3).trans (Go1.of_mv hm (.inl rfl))
      refine ⟨rfl, Ow p q vw m, ⟨vw, m, by rw [DS.wr, if_neg he]; exact hdW, fun _ => Iff.rfl⟩, ?_⟩
      exact ⟨⟨hg0.mv.os, hg0.mv.tape, hg0.mv.output, hg0.mv.size, fun k hk hn => hg0.mv.block k hk (fun h => hn ((ho k).2 h))⟩, fun k hk => (hg0.own k hk).imp (fun h => (ho k).2 h) id⟩))
  clear hd ho hlt nO hr hz hby hlc hcm hpg hl8 hN hf hn hb3 c1 c2 s1 s2 ob
  have hmf' := hmf
  subst hW3
  go_enter Try.func22, Try.ntmps22
  go_wp2_with fail
  refine HOp.out.mono ?_
  rintro e w' ⟨x, rfl, rfl, hh⟩
  have HH := hide hh
  clear hh
  go_wp2
  go_ret
  exact ⟨rfl, HH.out⟩
end Go.Proofs.Ytpcckaahfaobeaa
