/- The Go function CodeReads answers true for every bytes and every list of calls that are handed in, and leaves them as they were: a reader answers any calls, of any bytes, as the chapter says, with its errors and their places; the bytes are not looked at again, what comes out is its owner's. No condition. -/
import Derived.Test.YtobkmjkcbihfbaaXg
import Derived.Test.YtobkmjkcbihfbaaWa
import Derived.RegionTactic
namespace Go.Proofs.Ytobkmjkcbihfbaa.Reads
open Go.ChangeShapes Go.WideShapes Go.ChangeAt Go.RowKit Go.Deep
set_option linter.unusedVariables false

/-- the blocks of both readers. -/
def rfo (p : Nat) (a : Option Addr) (x k : Nat) : Prop := k = p ∨ k = x ∨ ∃ ad, a = some ad ∧ ad.block = k
structure Rst (B : Nat) (w0 w : World) (p : Nat) (a : Option Addr) (x : Nat) (ax : Option Addr) (cx : Nat) (bs : List Int) (i e q : Nat) (vb : Value) (n : Nat) (A : Nat → Option Addr) (Z : Nat → List Int) (d : Nat → Prop) : Prop where
  sep : Sep B w0 w (fo (rfo p a x) (fun _ => False) (bft q vb n A) d)
  both : Both w p a x ax cx bs i e
  bk : Bk w q vb
  fam : Fam w vb n A Z
section
variable {B : Nat} {w0 w w' : World} {p x : Nat} {a ax : Option Addr} {cx : Nat} {bs : List Int} {i e i' e' q : Nat} {vb v' : Value} {n : Nat} {A : Nat → Option Addr} {Z : Nat → List Int} {d : Nat → Prop}
theorem Rst.on (h : Rst B w0 w p a x ax cx bs i e q vb n A Z d) (hb : Below w.heap.size w w') : Rst B w0 w' p a x ax cx bs i e q vb n A Z d :=
  ⟨h.sep.on hb, h.both.on hb, (hb.block q h.bk.lt).trans h.bk, h.fam.of_block fun k hk => hb.block k (h.fam.lt k hk)⟩
/-- both readers read, and something new comes out. -/
theorem Rst.read (h : Rst B w0 w p a x ax cx bs i e q vb n A Z fun _ => False) (hb : Both w' p a x ax cx bs i' e') (hk : Kp (fun k => k = p ∨ k = x) w w') (hd : ∀ k, d k → w.heap.size ≤ k ∧ k < w'.heap.size) : Rst B w0 w' p a x ax cx bs i' e' q vb n A Z d := by
  have hk2 : Kp (rfo p a x) w w' := hk.wider fun k h _ => h.elim .inl fun h => .inr (.inl h)
  have s2 : ∀ k, bft q vb n A k → w'.heap[k]? = w.heap[k]? := fun k hb2 => hk2.block k (h.sep.high 2 k hb2) (fun hf => h.sep.dis 0 2 k (by omega) hf hb2)
  refine ⟨⟨h.sep.below.trans (hk2.below (h.sep.low 0) h.sep.size), Nat.le_trans h.sep.size hk.size, ?_, ?_, ?_⟩, hb, (s2 q (.inl rfl)).trans h.bk, h.fam.of_block fun k hk3 => s2 k (.inr hk3)⟩
  · intro j k hj
    match j, hj with
    | 0, hj => exact h.sep.low 0 k hj
    | 1, hj => exact hj.elim
    | 2, hj => exact h.sep.low 2 k hj
    | 3, hj => exact Nat.le_trans h.sep.size (hd k hj).1
    | m + 4, hj => exact hj.elim
  · intro j k hj
    match j, hj with
    | 0, hj => exact Nat.lt_of_lt_of_le (h.sep.high 0 k hj) hk.size
    | 1, hj => exact hj.elim
    | 2, hj => exact Nat.lt_of_lt_of_le (h.sep.high 2 k hj) hk.size
    | 3, hj => exact (hd k hj).2
    | m + 4, hj => exact hj.elim
  · intro j l k hne h1 h2
    match j, l, hne, h1, h2 with
    | 0, 0, hne, _, _ => omega
    | 0, 2, _, h1, h2 => exact h.sep.dis 0 2 k (by omega) h1 h2
    | 0, 3, _, h1, h2 => have := h.sep.high 0 k h1; have := (hd k h2).1; omega
    | 2, 0, _, h1, h2 => exact h.sep.dis 2 0 k (by omega) h1 h2
    | 2, 2, hne, _, _ => omega
    | 2, 3, _, h1, h2 => have := h.sep.high 2 k h1; have := (hd k h2).1; omega
    | 3, 0, _, h1, h2 => have := h.sep.high 0 k h2; have := (hd k h1).1; omega
    | 3, 2, _, h1, h2 => have := h.sep.high 2 k h2; have := (hd k h1).1; omega
    | 3, 3, hne, _, _ => omega
    | 1, _, _, h1, _ => exact h1
    | m + 4, _, _, h1, _ => exact h1
    | 0, 1, _, _, h2 => exact h2
    | 2, 1, _, _, h2 => exact h2
    | 3, 1, _, _, h2 => exact h2
    | 0, m + 4, _, _, h2 => exact h2
    | 2, m + 4, _, _, h2 => exact h2
    | 3, m + 4, _, _, h2 => exact h2
theorem Rst.put {b : Option Addr} {ls : List Int} (h : Rst B w0 w p a x ax cx bs i e q vb n A Z fun k => ∃ ad, b = some ad ∧ ad.block = k) (hb : Bk w' q v') (hf : Fam w' v' (n + 1) (put A n b) (put Z n ls)) (hk : Kp (fun k => k = q ∨ blks vb k) w w') (hv : ∀ k, blks v' k → blks vb k ∨ w.heap.size ≤ k) (hax : ∀ ad, ax = some ad → ad.block < B ∨ bs = []) :
    Rst B w0 w' p a x ax cx bs i e q v' (n + 1) (Go.Proofs.Ytobkmjkcbihfbaa.put A n b) (Go.Proofs.Ytobkmjkcbihfbaa.put Z n ls) fun _ => False := by
  have h1 := h.sep.merge
  have hm : Mv ((fo (rfo p a x) (fun _ => False) (fun k => bft q vb n A k ∨ ∃ ad, b = some ad ∧ ad.block = k) fun _ => False) 2) w (bft q v' (n + 1) (Go.Proofs.Ytobkmjkcbihfbaa.put A n b)) w' := by
    refine ⟨hk.os, hk.tape, hk.output, hk.size, fun k hlt hn => hk.block k hlt (fun e => hn (.inl (e.elim .inl fun e => .inr (.inl e)))), ?_⟩
    rintro k (rfl | h2 | h2)
    · exact .inl (.inl (.inl rfl))
    · rcases hv k h2 with h3 | h3
      · exact .inl (.inl (.inr (.inl h3)))
      · exact .inr h3
    · rcases rft_put n A b k h2 with h3 | h3
      · exact .inl (.inl (.inr (.inr h3)))
      · exact .inl (.inr h3)
  have h3 := h1.mv 2 _ hm (by
    rintro k (rfl | h2)
    · exact hb.lt
    · exact hf.lt k h2)
  rw [fo2] at h3
  have s0 := h1.stays (i := 2) (j := 0) (by omega) hm
  have hrow : ∀ zs c, Row w c zs → (∀ ad, c = some ad → (∀ k, ad.block = k → w'.heap[k]? = w.heap[k]?) ∨ zs = []) → Row w' c zs := by
    intro zs c hr hs
    rcases hr with hr | ⟨b2, off, rfl, hlt, hc⟩
    · exact .inl hr
    · rcases hs _ rfl with hs | hs
      · exact .inr ⟨b2, off, rfl, Nat.lt_of_lt_of_le hlt hk.size, fun j hj => (World.cell?_of_block (a := ⟨b2, off + j, none⟩) (hs b2 rfl)).trans (hc j hj)⟩
      · exact .inl hs
  have hbel := h3.below
  refine ⟨h3, ⟨?_, ?_, h.both.ne, h.both.far, h.both.fax⟩, hb, hf⟩
  · have r := h.both.rd
    exact ⟨(s0 p (.inl rfl)).trans r.blk, hrow _ _ r.row fun ad had => .inl fun k hk2 => s0 k (.inr (.inr ⟨ad, had, hk2⟩)), r.apart, r.bare, r.byts, r.le, r.small, r.err, fun ad had => Nat.lt_of_lt_of_le (r.inn ad had) hk.size⟩
  · have r := h.both.xd
    refine r.of (s0 x (.inr (.inl rfl))) (hrow _ _ r.row fun ad had => ?_)
    rcases hax ad had with h5 | h5
    · exact .inl fun k hk2 => (hbel.block k (by omega)).trans (h.sep.below.block k (by omega)).symm
    · exact .inr h5
end
/-- the document's reader and the book are laid. -/
theorem start {B : Nat} {w0 w : World} {p : Nat} {a ax : Option Addr} {cx n : Nat} {bs : List Int} (hb : Below B w0 w) (hB : B ≤ w.heap.size) (hr : Rd w p a bs 0 0) (hp : B ≤ p) (ha : ∀ ad, a = some ad → B ≤ ad.block) (hn : bs.length = n) (hrow : Row w0 ax bs) (hw0 : w0.heap.size = B) (hax : ∀ ad, ax = some ad → ad.block < B ∨ bs = []) (hbare : ax = none → n = 0 ∧ cx = 0) (hcap : n ≤ cx) (hcaps : cx ≤ maxLen) (A : Nat → Option Addr) (Z : Nat → List Int) :
    Rst B w0 ((w.alloc (.cells #[.slice ax n cx, .int .i64 0, .int .i64 0, .int .i64 0] 67)).alloc (.cells #[.slice none 0 0, .slice none 0 0, .slice none 0 0, .slice none 0 0, .slice none 0 0, .slice none 0 0, .slice none 0 0, .slice none 0 0, .slice none 0 0, .slice none 0 0, .slice none 0 0, .slice none 0 0, .slice none 0 0, .slice none 0 0, .slice none 0 0, .slice none 0 0, .slice none 0 0, .slice none 0 0, .slice none 0 0, .slice none 0 0, .slice none 0 0, .slice none 0 0, .slice none 0 0] 53)) p a w.heap.size ax cx bs 0 0 (w.alloc (.cells #[.slice ax n cx, .int .i64 0, .int .i64 0, .int .i64 0] 67)).heap.size (.slice none 0 0) 0 A Z fun _ => False := by
  have b1 := below_alloc w (.cells #[.slice ax n cx, .int .i64 0, .int .i64 0, .int .i64 0] 67)
  have b2 := below_alloc (w.alloc (.cells #[.slice ax n cx, .int .i64 0, .int .i64 0, .int .i64 0] 67)) (.cells #[.slice none 0 0, .slice none 0 0, .slice none 0 0, .slice none 0 0, .slice none 0 0, .slice none 0 0, .slice none 0 0, .slice none 0 0, .slice none 0 0, .slice none 0 0, .slice none 0 0, .slice none 0 0, .slice none 0 0, .slice none 0 0, .slice none 0 0, .slice none 0 0, .slice none 0 0, .slice none 0 0, .slice none 0 0, .slice none 0 0, .slice none 0 0, .slice none 0 0, .slice none 0 0] 53)
  have e1 : (w.alloc (.cells #[.slice ax n cx, .int .i64 0, .int .i64 0, .int .i64 0] 67)).heap.size = w.heap.size + 1 := by simp
  have e2 : ((w.alloc (.cells #[.slice ax n cx, .int .i64 0, .int .i64 0, .int .i64 0] 67)).alloc (.cells #[.slice none 0 0, .slice none 0 0, .slice none 0 0, .slice none 0 0, .slice none 0 0, .slice none 0 0, .slice none 0 0, .slice none 0 0, .slice none 0 0, .slice none 0 0, .slice none 0 0, .slice none 0 0, .slice none 0 0, .slice none 0 0, .slice none 0 0, .slice none 0 0, .slice none 0 0, .slice none 0 0, .slice none 0 0, .slice none 0 0, .slice none 0 0, .slice none 0 0, .slice none 0 0] 53)).heap.size = w.heap.size + 2 := by simp
  have hx0 : (w.alloc (.cells #[.slice ax n cx, .int .i64 0, .int .i64 0, .int .i64 0] 67)).heap[w.heap.size]? = some (.cells #[.slice ax n cx, .int .i64 0, .int .i64 0, .int .i64 0] 67 (0, 0)) := heap_alloc_new w _
  have hpl := hr.lt
  have r0 : ∀ k, rfo p a w.heap.size k → B ≤ k ∧ k < w.heap.size + 1 := by
    rintro k (rfl | rfl | ⟨ad, had, rfl⟩)
    · exact ⟨hp, by omega⟩
    · exact ⟨hB, by omega⟩
    · exact ⟨ha ad had, by have := hr.inn ad had; omega⟩
  have r2 : ∀ k, bft (w.alloc (.cells #[.slice ax n cx, .int .i64 0, .int .i64 0, .int .i64 0] 67)).heap.size (.slice none 0 0) 0 A k → k = w.heap.size + 1 := by
    rintro k (hk | hk | ⟨i, hi, _⟩)
    · omega
    · cases hk
    · omega
  refine ⟨⟨hb.trans ((b1.mono hB).trans (b2.mono (by omega))), by omega, ?_, ?_, ?_⟩, ⟨(hr.below b1).below b2, ?_, by omega, ?_, ?_⟩, heap_alloc_new _ _, ⟨World.ownsRow_nil _ _ _ _, fun i hi => by omega, fun i j hi => by omega⟩⟩
  · intro j k hj
    match j, hj with
    | 0, hj => exact (r0 k hj).1
    | 1, hj => exact hj.elim
    | 2, hj => have := r2 k hj; omega
    | 3, hj => exact hj.elim
    | m + 4, hj => exact hj.elim
  · intro j k hj
    match j, hj with
    | 0, hj => have := (r0 k hj).2; omega
    | 1, hj => exact hj.elim
    | 2, hj => have := r2 k hj; omega
    | 3, hj => exact hj.elim
    | m + 4, hj => exact hj.elim
  · intro j l k hne h1 h2
    match j, l, hne, h1, h2 with
    | 0, 0, hne, _, _ => omega
    | 0, 2, _, h1, h2 => have := (r0 k h1).2; have := r2 k h2; omega
    | 2, 0, _, h1, h2 => have := (r0 k h2).2; have := r2 k h1; omega
    | 2, 2, hne, _, _ => omega
    | 1, _, _, h1, _ => exact h1
    | 3, _, _, h1, _ => exact h1
    | m + 4, _, _, h1, _ => exact h1
    | 0, 1, _, _, h2 => exact h2
    | 2, 1, _, _, h2 => exact h2
    | 0, 3, _, _, h2 => exact h2
    | 2, 3, _, _, h2 => exact h2
    | 0, m + 4, _, _, h2 => exact h2
    | 2, m + 4, _, _, h2 => exact h2
  · refine ⟨?_, ?_, ?_, ?_, hr.byts, hr.le, hr.small, by omega, hcaps, by omega⟩
    · rw [b2.block _ (by omega), hx0, hn]; rfl
    · have hr2 : Row w ax bs := hrow.below (by rw [hw0]; exact hb)
      exact (hr2.below b1).below b2
    · intro ad had
      rcases hax ad had with h | h
      · left; omega
      · exact .inr h
    · intro h
      have := hbare h
      exact ⟨List.eq_nil_of_length_eq_zero (by omega), this.2⟩
  · intro ad had
    have := hr.inn ad had
    omega
  · intro ad had
    rcases hax ad had with h | h
    · left; omega
    · exact .inr h

set_option maxHeartbeats 3200000 in
set_option maxRecDepth 1000000 in
theorem walk (a0 : Option Addr) (n0 c0 : Nat) (bs : List Int) (a1 : Option Addr) (l1 c1 : Nat) (O : Nat → Cal) (w : World) (hrow : Row w a0 bs) (hby : Byts bs) (hn : bs.length = n0) (hcap : n0 ≤ c0) (hcaps : c0 ≤ maxLen) (hbare : a0 = none → n0 = 0 ∧ c0 = 0) (h1 : Cals w a1 l1 O) (hl1 : l1 ≤ 140737488355328) :
    Calls Try.prog 4 #[.slice a0 n0 c0, .slice a1 l1 c1] w fun e w' => e = .returned (.bool true) ∧ Below w.heap.size w w' := by
  have H1 := hide h1
  have HRow := hide hrow
  have HBy := hide hby
  have HN := hide hn
  have HBare := hide hbare
  have HAx : Hid (∀ ad, a0 = some ad → ad.block < w.heap.size ∨ bs = []) := by
    intro ad had
    rcases hrow with h | ⟨b, off, h, hlt, _⟩
    · exact .inr h
    · rw [h] at had; cases had; exact .inl hlt
  clear h1 hrow hby hn hbare
  by_cases hb0 : n0 ≤ 20000
  case neg =>
    have hd : decide ((20000 : Int) < (n0 : Int)) = true := by simp; omega
    unfold maxLen at hcaps
    go_enter Try.func4, Try.ntmps4
    go_wp2
    go_ret
    exact ⟨rfl, Below.refl _ _⟩
  by_cases hb1 : l1 ≤ 20000
  case neg =>
    have hd : decide ((20000 : Int) < (n0 : Int)) = false := by simp; omega
    have hd2 : decide ((20000 : Int) < (l1 : Int)) = true := by simp; omega
    go_enter Try.func4, Try.ntmps4
    go_wp2
    go_ret
    exact ⟨rfl, Below.refl _ _⟩
  have hd : decide ((20000 : Int) < (n0 : Int)) = false := by simp; omega
  have hd2 : decide ((20000 : Int) < (l1 : Int)) = false := by simp; omega
  go_enter Try.func4, Try.ntmps4
  go_wp2_with fail
  refine (lent_any a0 n0 c0 bs w HN.out (by omega) HBare.out HRow.out).mono ?_
  rintro e W1 ⟨rfl, hown, hb⟩
  have L1 := hide hown
  have B1 := hide hb
  clear hown hb
  go_wp2_with fail
  refine (read_any (some ⟨w.heap.size, 0, none⟩) n0 (n0 + 2) bs W1 HN.out L1.out.row.left HBy.out (by omega)).mono ?_
  rintro e W2 ⟨p, a', rfl, hrd, hp, ha', hb⟩
  have hgl : w.heap.size < W1.heap.size := L1.out.lt (k := w.heap.size) rfl
  have R2 := hide hrd
  have HP := hide hp
  have HA := hide ha'
  have L2 := hide (L1.out.of_block fun k hk => hb.block k (L1.out.lt hk))
  have B2 := hide (B1.out.trans (hb.mono B1.out.size))
  have HGl := hide hgl
  clear hrd hp ha' hb hgl L1
  go_wp2_with fail
  refine (whole_any w.heap.size a0 n0 c0 bs W2 HN.out (by omega) L2.out.row (HRow.out.below B2.out)).mono ?_
  rintro e W3 ⟨rfl, hb⟩
  have L3 : Hid (Blk W3 w.heap.size (n0 + 2)) := (L2.out.of_block fun k hk => hb.block k (L2.out.lt hk)).blk
  have R3 := hide (R2.out.below hb)
  have B3 := hide (B2.out.trans (hb.mono B2.out.size))
  clear hb L2 R2
  go_wp2_with fail
  refine (spoil_any w.heap.size n0 (n0 + 2) W3 L3.out (by omega) (by omega)).mono ?_
  rintro e W4 ⟨rfl, hg⟩
  have R4 := hide (R3.out.of hg (by have := HP.out; have := HGl.out; omega) (fun ad had => by have := HA.out ad had; have := HGl.out; omega))
  have B4 := hide (B3.out.grown hg B3.out.size (fun k hk => by cases hk; exact Nat.le_refl _))
  clear hg R3 B3 L3
  go_wp2_with fail
  refine (known_any _).mono ?_
  rintro e W5 ⟨rfl, hb⟩
  have R5 := hide (R4.out.below hb)
  have B5 := hide (B4.out.trans (hb.mono B4.out.size))
  clear hb R4 B4 B1 B2
  have T0 := hide (start B5.out B5.out.size R5.out (by have := HP.out; have := HGl.out; omega) (fun ad had => by have := HA.out ad had; have := HGl.out; omega) HN.out HRow.out rfl HAx.out HBare.out hcap hcaps (fun _ => none) (fun _ => []))
  rw [show (W5.alloc (.cells #[.slice a0 n0 c0, .int .i64 0, .int .i64 0, .int .i64 0] 67)).heap.size = W5.heap.size + 1 from by simp] at T0
  go_wp2
  generalize (W5.alloc (.cells #[.slice a0 n0 c0, .int .i64 0, .int .i64 0, .int .i64 0] 67)).alloc (.cells #[.slice none 0 0, .slice none 0 0, .slice none 0 0, .slice none 0 0, .slice none 0 0, .slice none 0 0, .slice none 0 0, .slice none 0 0, .slice none 0 0, .slice none 0 0, .slice none 0 0, .slice none 0 0, .slice none 0 0, .slice none 0 0, .slice none 0 0, .slice none 0 0, .slice none 0 0, .slice none 0 0, .slice none 0 0, .slice none 0 0, .slice none 0 0, .slice none 0 0, .slice none 0 0] 53) = W6 at *
  generalize W5.heap.size + 1 = q at *
  generalize W5.heap.size = x at *
  generalize hB : w.heap.size = B at T0 HAx ⊢
  have HBB := hide hB
  clear hB HP HA HGl R5 B5
  go_loopw [10] (fun y wr' => ∃ (k i e n : Nat) (vb : Value) (A : Nat → Option Addr) (Z : Nat → List Int), k ≤ l1 ∧ y = .int .i64 (k : Int) ∧ Rst B w wr' p a' x a0 c0 bs i e q vb n A Z (fun _ => False) ∧ n ≤ k ∧ ∀ j, j < n → (Z j).length ≤ 10000000) (fun y _ => l1 - (intOf y).toNat)
  case atStart => exact ⟨0, 0, 0, 0, _, _, _, Nat.zero_le _, rfl, T0.out, by omega, fun j hj => by omega⟩
  case round =>
    clear T0
    obtain ⟨k, i, e, n, vb, A, Z, hk, rfl, hT, hnk, hZ⟩ := hrel
    have T := hide hT
    have HZ := hide hZ
    clear hT hZ
    by_cases hlt : k < l1
    · obtain ⟨b, off, rfl, hbl, hc⟩ := H1.out.at_ (by omega)
      obtain ⟨g0, g1, g2, g3⟩ := hc k hlt
      have hbB : b < B := HBB.out ▸ hbl
      have same : ∀ W : World, Below B w W → ∀ j v, w.cell? ⟨b, j, none⟩ = some v → W.cell? ⟨b, j, none⟩ = some v := fun W hW j v h => (World.cell?_of_block (a := ⟨b, j, none⟩) (hW.block b hbB)).trans h
      have q0 := same _ T.out.sep.below _ _ g0
      have q1 := same _ T.out.sep.below _ _ g1
      have q2 := same _ T.out.sep.below _ _ g2
      have q3 := same _ T.out.sep.below _ _ g3
      have G0 := hide g0
      have HSame := hide same
      have hkk := H1.out.kind k hlt
      have HCt := hide (H1.out.cnt k hlt)
      clear hc g0 g1 g2 g3 same
      generalize (O k).k = kk at *
      generalize (O k).v = v at *
      generalize (O k).n = nn at *
      generalize (O k).a = aa at *
      generalize (O k).l = ll at *
      generalize (O k).c = cc at *
      have HCl := hide (reads_any p a' x a0 c0 bs i e kk v nn aa ll cc wr T.out.both hkk HCt.out.1 HCt.out.2)
      go_wp2_with fail
      refine HCl.out.mono ?_
      rintro r W7 ⟨V, s1, m, d1, s2, d2, ls, i', e', rfl, hlen, hm, hr1, hr2, hown6, hboth, hkp⟩
      have HLn := hide hlen
      have HM := hide hm
      have HR1 := hide hr1
      have HR2 := hide hr2
      have HO6 := hide hown6
      have HBo := hide hboth
      have HKp := hide hkp
      clear hlen hm hr1 hr2 hown6 hboth hkp HCl q0 q1 q2 q3
      go_wp2_with fail
      refine (err_any p a' bs i' e' W7 HBo.out.rd).mono ?_
      rintro r W8 ⟨rfl, hb8⟩
      have q8 := HSame.out W8 (T.out.sep.below.trans (((HKp.out.wider (g := rfo p a' x) fun k h _ => h.elim .inl fun h => .inr (.inl h)).below (T.out.sep.low 0) T.out.sep.size).trans (hb8.mono (Nat.le_trans T.out.sep.size HKp.out.size)))) _ _ G0.out
      by_cases hk6 : kk % 8 = 6
      · have hkm : (kk : Int) % 8 = 6 := by omega
        obtain ⟨rfl, ho, ho2, hfr⟩ := HO6.out hk6
        have T7 : Hid (Rst B w W7 p a' x a0 c0 bs i' e' q vb n A Z fun k => ∃ ad, s1 = some ad ∧ ad.block = k) := T.out.read HBo.out HKp.out (by
          rintro y ⟨ad, rfl, rfl⟩
          exact ⟨hfr ad rfl, ho.lt rfl⟩)
        have T8 := hide (T7.out.on hb8)
        have HO8 := hide (ho.of_block fun y hy => hb8.block y (ho.lt hy))
        have HO9 := hide (ho2.of_block fun y hy => hb8.block y (ho2.lt hy))
        clear hb8 T7 T HR1 HR2 HBo HKp HO6 ho ho2 hfr
        go_wp2_with fail
        refine (book_any q vb n A Z s1 ls d1 HLn.out W8 T8.out.bk T8.out.fam HO8.out (fun y h1 h2 => T8.out.sep.dis 2 3 y (by omega) (.inr (.inr h1)) h2) (by omega)).mono ?_
        rintro r W9 ⟨rfl, vb', hbk, hfam, hkp, hv⟩
        have T13 := hide (T8.out.put hbk hfam hkp hv HAx.out)
        have HR1b : Hid (Row W9 s1 ls) := by
          refine (HO8.out.of_block fun y hy => hkp.block y (HO8.out.lt hy) ?_).row
          rintro (rfl | h)
          · exact book_ne_row T8.out.bk HO8.out hy
          · exact list_ne_row T8.out.fam.list HO8.out y h hy
        have HR2c : Hid (Row W9 s2 ls) := by
          refine (HO9.out.of_block fun y hy => hkp.block y (HO9.out.lt hy) ?_).row
          rintro (rfl | h)
          · exact book_ne_row T8.out.bk HO9.out hy
          · exact list_ne_row T8.out.fam.list HO9.out y h hy
        clear hbk hfam hkp hv T8 HO8 HO9
        go_wp2
        have hee : enEr bs.length i' e' < 65536 := by have := T13.out.both.rd.err; unfold enEr; split <;> omega
        have hle := T13.out.both.rd.le
        have her := T13.out.both.rd.err
        have HLf : Hid (((bs.length - i' : Nat) : Int) = (n0 : Int) - (i' : Int)) := by have := HN.out; rw [Hid]; omega
        have HC23 : Hid (∀ W, Rd W p a' bs i' e' → Calls Try.prog 23 #[.pointer (some ⟨p, 0, none⟩)] W fun r w' => r = .returned (.int .i64 ((n0 : Int) - (i' : Int))) ∧ Below W.heap.size W w') := fun W h => HLf.out ▸ left_any p a' bs i' e' W h
        have HC24 : Hid (∀ W, Rd W p a' bs i' e' → Calls Try.prog 24 #[.pointer (some ⟨p, 0, none⟩)] W fun r w' => r = .returned (.int .u16 (enEr bs.length i' e' : Int)) ∧ Below W.heap.size W w') := fun W h => end_any p a' bs i' e' W h
        have HC25 : Hid (∀ W, Xd W x a0 c0 bs i' e' → Calls Try.prog 25 #[.pointer (some ⟨x, 0, none⟩)] W fun r w' => r = .returned (.int .i64 (enEr bs.length i' e' : Int)) ∧ Below W.heap.size W w') := fun W h => xend_any x a0 c0 bs i' e' W h
        have y1 := T13.out.both.xd.c1
        have y2 := T13.out.both.xd.c2
        have y3 := T13.out.both.xd.c3
        have TD := hide (T13.out.on (Below.refl _ _).drew)
        have HC18 := hide (same_any s1 s2 d1 d1 d2 ls W9.drew HLn.out (by have := HM.out; have := HN.out; omega) (HR1b.out.below (Below.refl _ _).drew) (HR2c.out.below (Below.refl _ _).drew))
        have hle2 : i' ≤ n0 := by have := HN.out; omega
        have hw1 : IntKind.i64.wrap ((n0 : Int) - (i' : Int)) = (n0 : Int) - (i' : Int) := by simp [IntKind.wrap, IntKind.bits, IntKind.signed]; omega
        have hw2 : IntKind.i64.wrap (e' : Int) = (e' : Int) := by simp [IntKind.wrap, IntKind.bits, IntKind.signed]; omega
        have hw3 : IntKind.i64.wrap (enEr bs.length i' e' : Int) = (enEr bs.length i' e' : Int) := by simp [IntKind.wrap, IntKind.bits, IntKind.signed]; omega
        clear HLf hle
        go_region_held3 (fun W => W.cell? ⟨x, 1, none⟩ = some (.int .i64 (i' : Int)) ∧ W.cell? ⟨x, 2, none⟩ = some (.int .i64 (e' : Int)) ∧ W.cell? ⟨x, 3, none⟩ = some (.int .i64 (erAt e' i' : Int))) ((refine ⟨?_, ?_, ?_⟩ <;> assumption)) ((first | (go_at_call 18; refine HC18.out.mono ?_; intro r' V9 hh; obtain ⟨rfl, hb9⟩ := hh; have T9 := hide (TD.out.on hb9); have y91 := T9.out.both.xd.c1; have y92 := T9.out.both.xd.c2; have y93 := T9.out.both.xd.c3; clear hb9) | (go_at_call 23; refine (HC23.out _ T9.out.both.rd).mono ?_; intro r' V10 hh; obtain ⟨rfl, hb9⟩ := hh; have T10 := hide (T9.out.on hb9); have y101 := T10.out.both.xd.c1; have y102 := T10.out.both.xd.c2; have y103 := T10.out.both.xd.c3; clear hb9) | (go_at_call 24; refine (HC24.out _ T10.out.both.rd).mono ?_; intro r' V11 hh; obtain ⟨rfl, hb9⟩ := hh; have T11 := hide (T10.out.on hb9); have y111 := T11.out.both.xd.c1; have y112 := T11.out.both.xd.c2; have y113 := T11.out.both.xd.c3; clear hb9) | (go_at_call 25; refine (HC25.out _ T11.out.both.xd).mono ?_; intro r' V12 hh; obtain ⟨rfl, hb9⟩ := hh; have T12 := hide (T11.out.on hb9); have y121 := T12.out.both.xd.c1; have y122 := T12.out.both.xd.c2; have y123 := T12.out.both.xd.c3; clear hb9)))
        go_wp2
        go_roundw
        case rel => exact ⟨k + 1, i', e', n + 1, _, _, _, by omega, by go_num, T12.out, by omega, fun j hj => by
          by_cases e2 : j = n
          · subst e2; rw [put_same]; have := HLn.out; have := HM.out; have := HN.out; omega
          · rw [put_other _ _ _ _ e2]; exact HZ.out j (by omega)⟩
        case measure => simp [intOf]; omega
      · have hkm : ((kk : Int) % 8 == 6) = false := by simp; omega
        have T7 : Hid (Rst B w W7 p a' x a0 c0 bs i' e' q vb n A Z fun _ => False) := T.out.read HBo.out HKp.out (fun _ h => h.elim)
        have T8 := hide (T7.out.on hb8)
        have HR1b := hide (HR1.out.below hb8)
        have HR2b := hide (HR2.out.below hb8)
        clear hb8 T7 T HR1 HR2 HBo HKp HO6
        go_wp2
        have hee : enEr bs.length i' e' < 65536 := by have := T8.out.both.rd.err; unfold enEr; split <;> omega
        have hle := T8.out.both.rd.le
        have her := T8.out.both.rd.err
        have HLf : Hid (((bs.length - i' : Nat) : Int) = (n0 : Int) - (i' : Int)) := by have := HN.out; rw [Hid]; omega
        have HC23 : Hid (∀ W, Rd W p a' bs i' e' → Calls Try.prog 23 #[.pointer (some ⟨p, 0, none⟩)] W fun r w' => r = .returned (.int .i64 ((n0 : Int) - (i' : Int))) ∧ Below W.heap.size W w') := fun W h => HLf.out ▸ left_any p a' bs i' e' W h
        have HC24 : Hid (∀ W, Rd W p a' bs i' e' → Calls Try.prog 24 #[.pointer (some ⟨p, 0, none⟩)] W fun r w' => r = .returned (.int .u16 (enEr bs.length i' e' : Int)) ∧ Below W.heap.size W w') := fun W h => end_any p a' bs i' e' W h
        have HC25 : Hid (∀ W, Xd W x a0 c0 bs i' e' → Calls Try.prog 25 #[.pointer (some ⟨x, 0, none⟩)] W fun r w' => r = .returned (.int .i64 (enEr bs.length i' e' : Int)) ∧ Below W.heap.size W w') := fun W h => xend_any x a0 c0 bs i' e' W h
        have y1 := T8.out.both.xd.c1
        have y2 := T8.out.both.xd.c2
        have y3 := T8.out.both.xd.c3
        have TD := hide (T8.out.on (Below.refl _ _).drew)
        have HC18 := hide (same_any s1 s2 m d1 d2 ls W8.drew HLn.out (by have := HM.out; have := HN.out; omega) (HR1b.out.below (Below.refl _ _).drew) (HR2b.out.below (Below.refl _ _).drew))
        have hle2 : i' ≤ n0 := by have := HN.out; omega
        have hw1 : IntKind.i64.wrap ((n0 : Int) - (i' : Int)) = (n0 : Int) - (i' : Int) := by simp [IntKind.wrap, IntKind.bits, IntKind.signed]; omega
        have hw2 : IntKind.i64.wrap (e' : Int) = (e' : Int) := by simp [IntKind.wrap, IntKind.bits, IntKind.signed]; omega
        have hw3 : IntKind.i64.wrap (enEr bs.length i' e' : Int) = (enEr bs.length i' e' : Int) := by simp [IntKind.wrap, IntKind.bits, IntKind.signed]; omega
        clear HLf hle
        go_region_held3 (fun W => W.cell? ⟨x, 1, none⟩ = some (.int .i64 (i' : Int)) ∧ W.cell? ⟨x, 2, none⟩ = some (.int .i64 (e' : Int)) ∧ W.cell? ⟨x, 3, none⟩ = some (.int .i64 (erAt e' i' : Int))) ((refine ⟨?_, ?_, ?_⟩ <;> assumption)) ((first | (go_at_call 18; refine HC18.out.mono ?_; intro r' V9 hh; obtain ⟨rfl, hb9⟩ := hh; have T9 := hide (TD.out.on hb9); have y91 := T9.out.both.xd.c1; have y92 := T9.out.both.xd.c2; have y93 := T9.out.both.xd.c3; clear hb9) | (go_at_call 23; refine (HC23.out _ T9.out.both.rd).mono ?_; intro r' V10 hh; obtain ⟨rfl, hb9⟩ := hh; have T10 := hide (T9.out.on hb9); have y101 := T10.out.both.xd.c1; have y102 := T10.out.both.xd.c2; have y103 := T10.out.both.xd.c3; clear hb9) | (go_at_call 24; refine (HC24.out _ T10.out.both.rd).mono ?_; intro r' V11 hh; obtain ⟨rfl, hb9⟩ := hh; have T11 := hide (T10.out.on hb9); have y111 := T11.out.both.xd.c1; have y112 := T11.out.both.xd.c2; have y113 := T11.out.both.xd.c3; clear hb9) | (go_at_call 25; refine (HC25.out _ T11.out.both.xd).mono ?_; intro r' V12 hh; obtain ⟨rfl, hb9⟩ := hh; have T12 := hide (T11.out.on hb9); have y121 := T12.out.both.xd.c1; have y122 := T12.out.both.xd.c2; have y123 := T12.out.both.xd.c3; clear hb9)))
        go_wp2
        go_roundw
        case rel => exact ⟨k + 1, i', e', n, _, _, _, by omega, by go_num, T12.out, by omega, HZ.out⟩
        case measure => simp [intOf]; omega
    · go_wp2_with fail
      refine (own_any q vb n A Z wr T.out.bk T.out.fam (by omega) HZ.out).mono ?_
      rintro e W14 ⟨rfl, hkp⟩
      have HE : Hid (Below B w W14) := T.out.sep.below.trans (hkp.below (fun y hy => T.out.sep.low 2 y (.inr (.inr hy))) T.out.sep.size)
      clear hkp T
      go_wp2
      go_ret
      exact ⟨rfl, by rw [HBB.out]; exact HE.out⟩

set_option maxRecDepth 1000000 in
theorem lifted (os : Os) (started : os.Started) (H : Type) (enc : TypeId × Value → H) :
    ReturnsInHanded {} Try.checked os 4 .any (Rows.codeReadsSpec.pre6 enc Try.prog Try.f4 Rows.codeReadsRow.domain false) (Rows.codeReadsSpec.post enc Try.prog Try.f4 false true false false) := by
  refine returnsInHanded_of_change_sized (C := Try.checked) own started (by kernel_rfl) Try.func4
    (ChangeSpec.witness6 (enc := enc) (C := Try.checked) false ⟨#[], #[.slice none 0 0, .slice none 0 0], []⟩ 8 (by kernel_rfl) (by kernel_rfl) (by kernel_rfl) (by kernel_rfl)) ?_
  intro W base args ds gs before hval0 hW hcnd hsz0 _
  have hval : ∀ (j : Nat) t v, Try.f4.params[j]? = some t → args[j]? = some v → Value.okWide Try.prog W .any base t v := hval0
  have hsz : (DataW.weightsEach Try.prog (Try.f4.params.toList ++ Rows.codeReadsSpec.plain.varTypes Try.prog) (ds ++ gs)).all (· ≤ reachBytes) = true := hsz0
  have hW' := hW
  obtain ⟨p, q, hA0, hV, rfl, hfz, hnd⟩ := hW
  have hA : DataW.TrodAll enc Try.prog W 0 (fun _ => true) true Try.f4.params.toList args.toList ds p := hA0
  rw [Try.params4] at hA hval hsz
  obtain ⟨v0, vs0, d0, ds0, p0, q0, hargs, rfl, rfl, h0, r0⟩ := trodAll_cons hA
  obtain ⟨v1, vs1, d1, ds1, p1, q1, rfl, rfl, rfl, h1, r1⟩ := trodAll_cons r0
  obtain ⟨rfl, rfl, rfl⟩ := trodAll_nil r1
  obtain rfl : args = #[v0, v1] := by cases args; simp_all
  obtain ⟨rfl, rfl⟩ := trodVars_none hV
  obtain ⟨a0, len0, cap0, rfl⟩ := okWide_slice Try.underlying27 (hval 0 27 v0 rfl rfl)
  obtain ⟨a1, len1, cap1, rfl⟩ := okWide_slice Try.underlying22 (hval 1 22 v1 rfl rfl)
  have k0 := h0
  have k1 := h1
  have lt0 : ∀ x ∈ p0, x.block < W.heap.size := by obtain ⟨m, hm⟩ := k0; exact DataW.trod_lt m _ _ _ hm
  have lt1 : ∀ x ∈ p1, x.block < W.heap.size := by obtain ⟨m, hm⟩ := k1; exact DataW.trod_lt m _ _ _ hm
  have s1 : (d1.weights Try.prog 22).all (· ≤ reachBytes) = true := List.all_eq_true.2 fun n hn => List.all_eq_true.1 hsz n (List.mem_append.2 (.inr (List.mem_append.2 (.inl hn))))
  obtain ⟨z0, w0⟩ : ∃ zs, IsRow .u8 W a0 len0 cap0 zs := by
    obtain ⟨fuel, hf⟩ := h0
    rcases open_ints Try.underlying27 Try.underlying5 (by kernel_rfl) hf with ⟨hcs, _⟩ | ⟨x, l, c, zs, hcs, _, hl, hm, hz, _, hcell, hwz⟩
    · simp [Value.cells] at hcs
      obtain ⟨rfl, rfl, rfl⟩ := hcs
      exact ⟨[], .inl ⟨rfl, rfl, rfl, rfl⟩⟩
    · simp [Value.cells] at hcs
      obtain ⟨rfl, rfl, rfl⟩ := hcs
      exact ⟨zs, .inr ⟨_, rfl, hl, hm, by simpa using hz, hcell, hwz⟩⟩
  obtain ⟨hl1, O, c1⟩ : len1 ≤ 140737488355328 ∧ ∃ O, Cals W a1 len1 O := by
    obtain ⟨fuel, hf⟩ := h1
    exact calls_open (x := (d1, p1)) hf s1
  obtain ⟨i1, i2, i3, i4, i5, i6⟩ := isrow_row w0
  clear hA0 hval0
  refine (walk a0 len0 cap0 _ a1 len1 cap1 O W i1 i2 i3 i4 i5 i6 c1 hl1).mono fun e W' ⟨he, bel⟩ => ?_
  subst he
  exact ⟨_, rfl, _, _, _, [], _, [], hW', trodAll_mk1 (shut_bool Try.underlying4 _), (trodAll_cons_mk (Below.trod laidOut (by kernel_rfl) (of_decide_eq_true (by kernel_rfl)) k0 bel lt0) (trodAll_cons_mk (Below.trod laidOut (by kernel_rfl) (of_decide_eq_true (by kernel_rfl)) k1 bel lt1) trodAll_mk0)), rfl, bel.frame _, fun h => by cases h⟩

theorem over : Rows.codeReadsRow.holds Try.pinned (OpenSpec.ofChange Rows.codeReadsSpec) :=
  OpenClaim.holds_of_wide 4 Try.f4 rfl rfl rfl rfl rfl rfl rfl ⟨rfl, rfl, rfl, rfl, rfl⟩ rfl rfl rfl rfl rfl (by kernel_rfl) Try.func4 (by kernel_rfl)
    (of_decide_eq_true (by kernel_rfl)) (by unfold Func.isWrapper; first | (rw [if_pos (by decide +kernel)]; kernel_rfl) | (rw [if_neg (by decide +kernel)]; exact ⟨rfl, rfl⟩))
    (fun os started H enc _ => lifted os started H enc)

end Go.Proofs.Ytobkmjkcbihfbaa.Reads
namespace Go.Proofs.Ytobkmjkcbihfbaa
theorem codeReads_holds : Rows.CodeReadsSaid := Reads.over
#print axioms codeReads_holds
end Go.Proofs.Ytobkmjkcbihfbaa
