/- The reader: the next byte, a number, what a text has. -/
import Derived.Test.YtegoeaofjnpehabK
import Derived.Laws.Bits64b
import Derived.Laws.BytesString
namespace Go.Proofs.Ytegoeaofjnpehab
open Go.RowKit
set_option linter.unusedVariables false

/-- bytes as a text. -/
def bk (ys : List Int) : ByteArray := ⟨(ys.map fun z => UInt8.ofNat z.toNat).toArray⟩
theorem sb_bk (ys : List Int) (h : Byts ys) : sb (bk ys) = ys := by
  unfold sb bk
  simp only [List.map_map]
  conv => rhs; rw [← List.map_id ys]
  apply List.map_congr_left
  intro z hz
  have := h z hz
  simp; omega
theorem run_text (w : World) (a : Option Addr) (n c : Nat) (ys : List Int) (hl : ys.length = n) (hn : a = none → n = 0 ∧ c = 0) (hr : Row w a ys) (hb : Byts ys) : (convert 22 9 (.slice a n c)).run Try.prog w = .ok (.string (bk ys)) w := by
  cases a with
  | none =>
    obtain ⟨rfl, rfl⟩ := hn rfl
    have e : ys = [] := List.eq_nil_of_length_eq_zero hl
    subst e
    rw [run_convert_bytes_string w 22 9 5 none 0 0 Try.underlying22 Try.underlying5 Try.underlying9]
    rfl
  | some ad =>
    have h := run_convert_bytes_back (P := Try.prog) w 22 9 5 ad c (ys.map fun z => UInt8.ofNat z.toNat) Try.underlying22 Try.underlying5 Try.underlying9 (by
      intro j hj
      rw [List.length_map] at hj
      refine hr.news ad rfl j _ ?_
      have := hb (ys[j]) (List.getElem_mem hj)
      simp [hj]
      omega)
    rw [List.length_map, hl] at h
    exact h

/-- the reader at p of the bytes bs stands at i, and has begun n values; what it reads passes through m. -/
structure Rdr (W : World) (p : Nat) (a : Option Addr) (cap : Nat) (bs : List Int) (i n q : Nat) (m : Int) : Prop where
  blk : W.heap[p]? = some (.cells #[.slice a bs.length cap, .int .i64 (i : Int), .int .i64 (n : Int), .func (.func 36) #[] #[.pointer (some ⟨q, 0, none⟩)]] 62 (0, 0))
  row : Row W a bs
  byts : Byts bs
  off : ∀ ad, a = some ad → ad.block ≠ p
  tq : W.heap[q]? = some (.cells #[.int .u8 m] 5 (0, 0))
  le : i ≤ bs.length
  small : bs.length ≤ 1000000
  many : n ≤ 1000000
  md : 0 ≤ m ∧ m ≤ 255
section
variable {w w' : World} {p : Nat} {a : Option Addr} {cap : Nat} {bs : List Int} {i n q : Nat} {m : Int}
theorem Rdr.lt (h : Rdr w p a cap bs i n q m) : p < w.heap.size := lt_of_block h.blk
theorem Rdr.ne (h : Rdr w p a cap bs i n q m) : q ≠ p := fun e => by
  have h1 := h.blk
  have h2 := h.tq
  rw [e, h1] at h2
  simp at h2
theorem Rdr.c0 (h : Rdr w p a cap bs i n q m) : w.cell? ⟨p, 0, none⟩ = some (.slice a bs.length cap) := by simp [World.cell?, h.blk]
theorem Rdr.c1 (h : Rdr w p a cap bs i n q m) : w.cell? ⟨p, 1, none⟩ = some (.int .i64 (i : Int)) := by simp [World.cell?, h.blk]
theorem Rdr.c2 (h : Rdr w p a cap bs i n q m) : w.cell? ⟨p, 2, none⟩ = some (.int .i64 (n : Int)) := by simp [World.cell?, h.blk]
theorem Rdr.c3 (h : Rdr w p a cap bs i n q m) : w.cell? ⟨p, 3, none⟩ = some (.func (.func 36) #[] #[.pointer (some ⟨q, 0, none⟩)]) := by simp [World.cell?, h.blk]
theorem Rdr.f (h : Rdr w p a cap bs i n q m) (j : Nat) : w.frozen? ⟨p, j, none⟩ = false := by simp [World.frozen?, h.blk]
theorem Rdr.below (h : Rdr w p a cap bs i n q m) (hb : Below w.heap.size w w') : Rdr w' p a cap bs i n q m :=
  ⟨(hb.block p h.lt).trans h.blk, h.row.below hb, h.byts, h.off, (hb.block q (lt_of_block h.tq)).trans h.tq, h.le, h.small, h.many, h.md⟩
theorem Row.set {zs : List Int} {b j : Nat} (h : Row w a zs) (ho : ∀ ad, a = some ad → ad.block ≠ b) (v : Value) : Row (w.setCell ⟨b, j, none⟩ v) a zs := by
  rcases h with h | ⟨b', o, rfl, hlt, hc⟩
  · exact .inl h
  · refine .inr ⟨b', o, rfl, by simpa [World.setCell] using hlt, fun i hi => ?_⟩
    have e : b' ≠ b := ho _ rfl
    exact (World.cell?_of_block (a := ⟨b', o + i, none⟩) (Below.heap_setCell _ _ _ _ e)).trans (hc i hi)
theorem Rdr.setAt (h : Rdr w p a cap bs i n q m) (j : Nat) (hj : j ≤ bs.length) : Rdr (w.setCell ⟨p, 1, none⟩ (.int .i64 (j : Int))) p a cap bs j n q m := by
  refine ⟨?_, h.row.set h.off _, h.byts, h.off, (Below.heap_setCell _ _ _ _ (fun e => h.ne e)).trans h.tq, hj, h.small, h.many, h.md⟩
  rw [heap_setCell_same w p 1 _ 62 _ h.blk]; rfl
theorem Rdr.setParts (h : Rdr w p a cap bs i n q m) (j : Nat) (hj : j ≤ 1000000) : Rdr (w.setCell ⟨p, 2, none⟩ (.int .i64 (j : Int))) p a cap bs i j q m := by
  refine ⟨?_, h.row.set h.off _, h.byts, h.off, (Below.heap_setCell _ _ _ _ (fun e => h.ne e)).trans h.tq, h.le, h.small, hj, h.md⟩
  rw [heap_setCell_same w p 2 _ 62 _ h.blk]; rfl
theorem Rdr.at (h : Rdr w p a cap bs i n q m) (j : Nat) (hj : j < bs.length) : ∃ b o, a = some ⟨b, o, none⟩ ∧ w.cell? ⟨b, o + j, none⟩ = some (.int .u8 (bs.getD j 0)) := by
  rcases h.row with h0 | ⟨b, o, rfl, _, hc⟩
  · subst h0; simp at hj
  · exact ⟨b, o, rfl, hc j hj⟩
end
theorem grown_setCell (w : World) (p j : Nat) (v : Value) : w.grownBy (w.setCell ⟨p, j, none⟩ v) (some p) :=
  ⟨rfl, rfl, rfl, by simp [World.setCell], fun k _ hne => Below.heap_setCell _ _ _ _ (fun e => hne (by rw [e]))⟩
theorem grown_refl (w : World) (r : Option Nat) : w.grownBy w r := ⟨rfl, rfl, rfl, Nat.le_refl _, fun _ _ _ => rfl⟩
theorem grown_trans {a b c : World} {r : Option Nat} (h : a.grownBy b r) (k : b.grownBy c r) : a.grownBy c r :=
  ⟨k.os.trans h.os, k.tape.trans h.tape, k.output.trans h.output, Nat.le_trans h.size k.size, fun i hi hn => (k.block i (Nat.lt_of_lt_of_le hi h.size) hn).trans (h.block i hi hn)⟩
theorem grown_below {a b : World} {r : Option Nat} (h : Below a.heap.size a b) : a.grownBy b r := ⟨h.os, h.tape, h.output, h.size, fun i hi _ => h.block i hi⟩

set_option maxHeartbeats 1600000 in
set_option maxRecDepth 1000000 in
theorem next_in (p : Nat) (a : Option Addr) (cap : Nat) (bs : List Int) (i n q : Nat) (m : Int) (w : World) (hr : Rdr w p a cap bs i n q m) (hi : i < bs.length) :
    Calls Try.prog 30 #[.pointer (some ⟨p, 0, none⟩)] w fun e w' => e = .returned (.tuple #[.int .u8 (tn m (bs.getD i 0)), .bool true]) ∧ Rdr w' p a cap bs (i + 1) n q m ∧ w.grownBy w' (some p) := by
  have k0 := hr.c0
  have k1 := hr.c1
  have hs := hr.small
  have HR := hide hr
  clear hr
  have hd : ((i : Int) == (bs.length : Int)) = false := by simp; omega
  go_enter Try.func30, Try.ntmps30
  go_wp2
  go_quiet (fail)
  have HR1 := hide (HR.out.below (below_drewN (Below.refl _ _) nq))
  have HG1 : Hid (w.grownBy (w.drewN nq) (some p)) := grown_below (below_drewN (Below.refl _ _) nq)
  clear k0 k1
  generalize w.drewN nq = W1 at *
  have q1 := HR1.out.c1
  have f1 := HR1.out.f 1
  have HR2 := hide (HR1.out.setAt (i + 1) (by omega))
  have HG2 := hide (grown_trans HG1.out (grown_setCell W1 p 1 (.int .i64 ((i + 1 : Nat) : Int))))
  go_wp2
  rw [show (i : Int) + 1 = ((i + 1 : Nat) : Int) by omega]
  clear q1 f1
  generalize W1.setCell ⟨p, 1, none⟩ (.int .i64 ((i + 1 : Nat) : Int)) = W2 at *
  obtain ⟨b, o, rfl, hcb⟩ := HR2.out.at i hi
  have p0 := HR2.out.c0
  have p1 := HR2.out.c1
  rw [show ((i + 1 : Nat) : Int) = (i : Int) + 1 by omega] at p1
  have p3 := HR2.out.c3
  have HT := fun k => hide (turn_any (bs.getD i 0) m q (W2.drewN k) (HR2.out.byts.at i) HR2.out.md (HR2.out.below (below_drewN (Below.refl _ _) k)).tq)
  generalize hgc : bs.getD i 0 = c at *
  have HGc := hide hgc
  clear hgc
  have hwr : IntKind.i64.wrap (i : Int) = (i : Int) := by simp [IntKind.wrap, IntKind.bits, IntKind.signed]; omega
  clear hd
  go_wp2
  go_quiet (first | (go_at_call 36; exact Calls.quiet_of_same (HT _).out))
  go_wp2
  go_ret2
  exact ⟨by rw [HGc.out]; rfl, HR2.out.below (below_drewN (Below.refl _ _) _), grown_trans HG2.out (grown_below (below_drewN (Below.refl _ _) _))⟩

/-- bytes joined to a number, the highest first. -/
def jb : List Int → Nat
  | l => l.foldl (fun A c => A * 256 + c.toNat) 0
theorem jb_snoc (l : List Int) (c : Int) : jb (l ++ [c]) = jb l * 256 + c.toNat := by simp [jb]
theorem jb_lt (l : List Int) (h : Byts l) : jb l < 256 ^ l.length := by
  suffices ∀ (l : List Int) (A : Nat) (k : Nat), Byts l → A < 256 ^ k → l.foldl (fun A c => A * 256 + c.toNat) A < 256 ^ (k + l.length) by
    have := this l 0 0 h (by simp)
    simpa [jb] using this
  intro l
  induction l with
  | nil => intro A k _ hA; simpa using hA
  | cons c t ih =>
    intro A k hb hA
    have hc := hb c (by simp)
    have := ih (A * 256 + c.toNat) (k + 1) (fun x hx => hb x (by simp [hx])) (by rw [Nat.pow_succ]; omega)
    simpa [Nat.add_assoc, Nat.add_comm 1] using this
theorem or_join (A : Nat) (c : Int) (hA : A < 256 ^ 7) (hc : 0 ≤ c ∧ c ≤ 255) : bits .or .u64 (IntKind.u64.wrap ((A : Int) * 256)) c = ((A * 256 + c.toNat : Nat) : Int) := by
  obtain ⟨k, rfl⟩ := Int.eq_ofNat_of_zero_le hc.1
  have hA' : A < 72057594037927936 := hA
  have e1 : IntKind.u64.wrap ((A : Int) * 256) = ((A * 256 : Nat) : Int) := by rw [IntKind.wrap_u64]; omega
  rw [e1, bits_or_u64_nat _ _ (by omega) (by omega)]
  have := Nat.shiftLeft_add_eq_or_of_lt (i := 8) (b := k) (by omega) A
  rw [Nat.shiftLeft_eq] at this
  simp only [Int.toNat_natCast]
  exact congrArg (fun x : Nat => (x : Int)) this.symm
/-- the number that eight bytes are. -/
def unX (A : Nat) : Int := wrap64 (bits BinOp.xor IntKind.u64 (A : Int) 9223372036854775808)
theorem take_snoc' (bs : List Int) (i k : Nat) (h : i + k < bs.length) : (bs.drop i).take (k + 1) = (bs.drop i).take k ++ [bs.getD (i + k) 0] := by
  rw [take_snoc _ _ (by simp; omega)]
  simp [List.getD_eq_getElem?_getD]

set_option maxHeartbeats 1600000 in
set_option maxRecDepth 1000000 in
theorem number_in (p : Nat) (a : Option Addr) (cap : Nat) (bs : List Int) (i n q : Nat) (m : Int) (w : World) (hr : Rdr w p a cap bs i n q m) (hi : i + 8 ≤ bs.length) :
    Calls Try.prog 42 #[.pointer (some ⟨p, 0, none⟩)] w fun e w' => e = .returned (.tuple #[.int .i64 (unX (jb (((bs.drop i).take 8).map (tn m)))), .bool true]) ∧ Rdr w' p a cap bs (i + 8) n q m ∧ w.grownBy w' (some p) := by
  have HR := hide hr
  clear hr
  go_enter Try.func42, Try.ntmps42
  go_wp2
  go_loopw [4, 7] (fun x s wr => ∃ k : Nat, k ≤ 8 ∧ s = .int .i64 (k : Int) ∧ x = .int .u64 ((jb (((bs.drop i).take k).map (tn m)) : Nat) : Int) ∧ Rdr wr p a cap bs (i + k) n q m ∧ w.grownBy wr (some p)) (fun _ s _ => 8 - (intOf s).toNat)
  case atStart => exact ⟨0, by omega, rfl, by simp [jb], HR.out, grown_refl _ _⟩
  case round =>
    obtain ⟨k, hk, rfl, rfl, hrd, hg⟩ := hrel
    have HRd := hide hrd
    have HG := hide hg
    clear hrd hg
    by_cases hlt : k < 8
    · have HS := hide (take_snoc' bs i k (by omega))
      have hby := tn_bd m (bs.getD (i + k) 0) (HRd.out.byts.at (i + k)) HRd.out.md
      have hjb := jb_lt (((bs.drop i).take k).map (tn m)) (fun c hc => by
        obtain ⟨x, hx, rfl⟩ := List.mem_map.1 hc
        exact tn_bd m x (HRd.out.byts x (List.mem_of_mem_drop (List.mem_of_mem_take hx))) HRd.out.md)
      have hjl : (((bs.drop i).take k).map (tn m)).length ≤ 7 := by simp; omega
      have HJ : Hid (jb (((bs.drop i).take k).map (tn m)) < 256 ^ 7) := Nat.lt_of_lt_of_le hjb (Nat.pow_le_pow_right (by omega) hjl)
      have HSt : Hid (jb (((bs.drop i).take (k + 1)).map (tn m)) = jb (((bs.drop i).take k).map (tn m)) * 256 + (tn m (bs.getD (i + k) 0)).toNat) := by
        rw [HS.out, map_snoc, jb_snoc]
        rfl
      have HOr := hide (or_join _ (tn m (bs.getD (i + k) 0)) HJ.out hby)
      rw [← HSt.out] at HOr
      clear hjb hjl HJ HS
      go_wp2_with fail
      refine (next_in p a cap bs (i + k) n q m wr HRd.out (by omega)).mono ?_
      rintro e W1 ⟨rfl, hrd1, hg1⟩
      have HR1 := hide hrd1
      have HG1 := hide (grown_trans HG.out hg1)
      clear hrd1 hg1 HG
      generalize tn m (bs.getD (i + k) 0) = c at *
      generalize jb (((bs.drop i).take k).map (tn m)) = A at *
      go_wp2
      go_roundw
      case rel => exact ⟨k + 1, by omega, by go_num, by rw [← HOr.out], HR1.out, HG1.out⟩
      case measure => simp [intOf]; omega
    · have hk8 : k = 8 := by omega
      subst hk8
      generalize hA : jb (((bs.drop i).take 8).map (tn m)) = A at *
      have HA := hide hA
      clear hA
      go_wp2
      go_ret2
      exact ⟨by rw [HA.out]; rfl, HRd.out, HG.out⟩
end Go.Proofs.Ytegoeaofjnpehab
/- The reader: what a text has, up to what ends it. -/
namespace Go.Proofs.Ytegoeaofjnpehab
open Go.RowKit
set_option linter.unusedVariables false

theorem head_at (bs : List Int) (m : Int) (i : Nat) (x : Int) (rest : List Int) (h : (bs.drop i).map (tn m) = x :: rest) : i < bs.length ∧ tn m (bs.getD i 0) = x ∧ (bs.drop (i + 1)).map (tn m) = rest := by
  have hi : i < bs.length := by
    have := congrArg List.length h
    simp at this
    omega
  rw [List.drop_eq_getElem_cons hi, List.map_cons] at h
  obtain ⟨h1, h2⟩ := List.cons.inj h
  refine ⟨hi, ?_, h2⟩
  rw [List.getD_eq_getElem?_getD, List.getElem?_eq_getElem hi]
  exact h1
theorem esc_cons (c : Int) (l : List Int) : esc (c :: l) = (if c = 0 then [0, 255] else [c]) ++ esc l := by simp [esc]
theorem drop_cons' (ys : List Int) (k : Nat) (h : k < ys.length) : ys.drop k = ys.getD k 0 :: ys.drop (k + 1) := by
  rw [List.drop_eq_getElem_cons h, List.getD_eq_getElem?_getD, List.getElem?_eq_getElem h]; rfl
def lenV : Value → Nat
  | .slice _ n _ => n
  | _ => 0
theorem grown_new {w a b : World} {p : Nat} {r : Option Nat} (h : w.grownBy a (some p)) (k : a.grownBy b r) (hr : ∀ j, r = some j → w.heap.size ≤ j) : w.grownBy b (some p) :=
  ⟨k.os.trans h.os, k.tape.trans h.tape, k.output.trans h.output, Nat.le_trans h.size k.size, fun i hi hn => (k.block i (Nat.lt_of_lt_of_le hi h.size) (fun e => by have := hr i e.symm; omega)).trans (h.block i hi hn)⟩
/-- all that the reader has lies below B. -/
structure Low (B p q : Nat) (a : Option Addr) : Prop where
  p : p < B
  q : q < B
  a : ∀ ad, a = some ad → ad.block < B
theorem Rdr.low {w : World} {p : Nat} {a : Option Addr} {cap : Nat} {bs : List Int} {i n q : Nat} {m : Int} (h : Rdr w p a cap bs i n q m) (h0 : bs ≠ []) : Low w.heap.size p q a := by
  refine ⟨h.lt, lt_of_block h.tq, fun ad e => ?_⟩
  rcases h.row with h1 | ⟨b, o, rfl, hlt, _⟩
  · exact absurd h1 h0
  · cases e; exact hlt
theorem Rdr.grown {w w' : World} {p : Nat} {a : Option Addr} {cap : Nat} {bs : List Int} {i n q : Nat} {m : Int} {B : Nat} {r : Option Nat} (h : Rdr w p a cap bs i n q m) (hl : Low B p q a) (hg : w.grownBy w' r) (hr : ∀ k, r = some k → B ≤ k) : Rdr w' p a cap bs i n q m := by
  have hb : ∀ k, k < B → k < w.heap.size → w'.heap[k]? = w.heap[k]? := fun k hk hw => hg.block k hw (fun e => by have := hr k e.symm; omega)
  refine ⟨(hb p hl.p h.lt).trans h.blk, ?_, h.byts, h.off, (hb q hl.q (lt_of_block h.tq)).trans h.tq, h.le, h.small, h.many, h.md⟩
  rcases h.row with h1 | ⟨b, o, rfl, hlt, hc⟩
  · exact .inl h1
  · exact .inr ⟨b, o, rfl, Nat.lt_of_lt_of_le hlt hg.size, fun j hj => (World.cell?_of_block (a := ⟨b, o + j, none⟩) (hb b (hl.a _ rfl) hlt)).trans (hc j hj)⟩
theorem OwnB.grown {B p : Nat} {w w' : World} {v : Value} {zs : List Int} (h : OwnB B w v zs) (hg : w.grownBy w' (some p)) (hp : p < B) : OwnB B w' v zs :=
  ⟨h.own.of_block fun k hk => hg.block k (h.own.lt hk) (fun e => by have := h.new k hk; cases e; omega), h.new⟩

theorem app_close {B p q n i cap : Nat} {a : Option Addr} {bs : List Int} {m : Int} {w W2 w1 : World} {v v' : Value} {zs ys : List Int} {o : Obj} (hB : w.heap.size = B) (hlo : Low B p q a) (hr : Rdr W2 p a cap bs i n q m) (hg : w.grownBy W2 (some p)) (ho : OwnB B W2 v zs) (hown : Own w1 v' ys)
    (hga : (W2.alloc o).grownBy w1 v.ownBlock) (hf : ∀ k, v'.ownBlock = some k → v.ownBlock = some k ∨ (W2.alloc o).heap.size ≤ k) : OwnB B w1 v' ys ∧ Rdr w1 p a cap bs i n q m ∧ w.grownBy w1 (some p) := by
  have hsz : B ≤ W2.heap.size := by rw [← hB]; exact hg.size
  refine ⟨⟨hown, fun k hk => (hf k hk).elim (ho.new k) (fun hs => by simp at hs; omega)⟩, (hr.below (below_alloc _ _)).grown hlo hga ho.new, grown_new (grown_trans hg (grown_below (below_alloc _ _))) hga (fun k hk => by rw [hB]; exact ho.new k hk)⟩
set_option maxHeartbeats 3200000 in
set_option maxRecDepth 1000000 in
theorem content_in (p : Nat) (a : Option Addr) (cap : Nat) (bs : List Int) (i n q : Nat) (m : Int) (ys rest : List Int) (w : World) (hr : Rdr w p a cap bs i n q m) (hE : (bs.drop i).map (tn m) = esc ys ++ 0 :: 1 :: rest) (hy : Byts ys) (hl : ys.length ≤ 4000) :
    Calls Try.prog 43 #[.pointer (some ⟨p, 0, none⟩)] w fun e w' => ∃ a' c', e = .returned (.tuple #[.slice a' ys.length c', .bool true]) ∧ OwnB w.heap.size w' (.slice a' ys.length c') ys ∧ Rdr w' p a cap bs (i + (esc ys).length + 2) n q m ∧ w.grownBy w' (some p) := by
  obtain ⟨i0, hi, hz0, hz1, hz2⟩ := info_parts Try.info5
  have hne : bs ≠ [] := fun e => by subst e; simp at hE
  have HLo := hide (hr.low hne)
  have HR := hide hr
  have HE := hide hE
  have HY := hide hy
  clear hr hE hy hne
  generalize hB : w.heap.size = B at *
  have HBB := hide hB
  clear hB
  go_enter Try.func43, Try.ntmps43
  go_wp2
  go_loopw [4] (fun o wr => ∃ k : Nat, k ≤ ys.length ∧ OwnB B wr o (ys.take k) ∧ Rdr wr p a cap bs (i + (esc (ys.take k)).length) n q m ∧ (bs.drop (i + (esc (ys.take k)).length)).map (tn m) = esc (ys.drop k) ++ 0 :: 1 :: rest ∧ w.grownBy wr (some p)) (fun o _ => ys.length + 1 - lenV o)
  case atStart => exact ⟨0, by omega, ⟨Own.nil _, fun k h => by simp [Value.ownBlock] at h⟩, by simpa [esc] using HR.out, by simpa [esc] using HE.out, grown_refl _ _⟩
  case round =>
    obtain ⟨k, hk, hown, hrd, hdr, hg⟩ := hrel
    obtain ⟨a1, n1, c1, rfl, HN1⟩ := hown.own.shape2
    have hn1 : n1 = k := by rw [HN1.out, List.length_take]; omega
    subst hn1
    have HO := hide hown
    have HRd := hide hrd
    have HG := hide hg
    have HDr := hide hdr
    clear hown hrd hg hdr HR HN1
    have hdl : decide ((n1 : Int) ≤ 4000) = true := by simp; omega
    by_cases hlt : n1 < ys.length
    · have hd0 := HDr.out
      rw [drop_cons' ys n1 hlt, esc_cons] at hd0
      have hby := HY.out.at n1
      have HTs := hide (take_snoc ys n1 hlt)
      have HEs := hide ((congrArg esc HTs.out).trans (esc_snoc _ _))
      by_cases hc0 : ys.getD n1 0 = 0
      · rw [hc0] at hd0 HTs HEs
        simp only [if_true, List.cons_append, List.nil_append] at hd0 HEs
        obtain ⟨h1, h2, h3⟩ := head_at _ _ _ _ _ hd0
        obtain ⟨h4, h5, h6⟩ := head_at _ _ _ _ _ h3
        have HA1 := hide h2
        have HA2 := hide h5
        have HA3 := hide h6
        clear hd0 h2 h3 h5 h6 hc0 hby
        go_wp2_with fail
        refine (next_in p a cap bs _ n q m wr HRd.out h1).mono ?_
        rintro e W1 ⟨rfl, hrd1, hg1⟩
        have HR1 := hide hrd1
        have HG1 := hide (grown_trans HG.out hg1)
        have HO1 := hide (HO.out.grown hg1 HLo.out.p)
        clear hrd1 hg1 HG HO
        rw [HA1.out]
        go_wp2_with fail
        refine (next_in p a cap bs _ n q m W1 HR1.out h4).mono ?_
        rintro e W2 ⟨rfl, hrd2, hg2⟩
        have HR2 := hide hrd2
        have HG2 := hide (grown_trans HG1.out hg2)
        have HO2 := hide (HO1.out.grown hg2 HLo.out.p)
        clear hrd2 hg2 HG1 HO1 HR1
        rw [HA2.out]
        go_wp2_with (at_builtin; refine wpList_append_src (by rfl) (.tmp 38) (.tmp 40) 22 22 (by rfl) i0 Try.underlying22 hi hz0 hz1 hz2 (.slice a1 n1 c1) (ys.take n1) (by rfl) (HO2.out.own.alloc _) (.slice (some ⟨W2.heap.size, 0, none⟩) 1 1) 1 [0] (by rfl) (src_one _ _) (by simp; omega) ?_; intro v' w1 hown1 hg1 hf1; obtain ⟨a3, n3, c3, rfl, HN3⟩ := hown1.shape2; have HGa := hide hg1; have HFa := hide hf1; have HOa := hide hown1; clear hown1 hg1 hf1)
        have HCl := hide (app_close HBB.out HLo.out HR2.out HG2.out HO2.out HOa.out HGa.out HFa.out)
        have hlen : (esc (ys.take (n1 + 1))).length = (esc (ys.take n1)).length + 1 + 1 := by rw [HEs.out]; simp
        have hn3 : n3 = n1 + 1 := by rw [HN3.out]; simp; omega
        go_roundw
        case rel => exact ⟨n1 + 1, by omega, by rw [HTs.out]; exact HCl.out.1, by rw [hlen]; exact HCl.out.2.1, by rw [hlen]; exact HA3.out, HCl.out.2.2⟩
        case measure => simp [lenV]; omega
      · rw [if_neg hc0] at hd0
        have HEs' := hide (HEs.out.trans (by rw [if_neg hc0]))
        simp only [List.cons_append, List.nil_append] at hd0
        obtain ⟨h1, h2, h3⟩ := head_at _ _ _ _ _ hd0
        have HA1 := hide h2
        have HA3 := hide h3
        have hcb : (ys.getD n1 0 == 0) = false := by simp only [beq_eq_false_iff_ne]; exact hc0
        have HBy := hide hby
        clear hd0 h2 h3 hc0 hby HEs
        go_wp2_with fail
        refine (next_in p a cap bs _ n q m wr HRd.out h1).mono ?_
        rintro e W1 ⟨rfl, hrd1, hg1⟩
        have HR1 := hide hrd1
        have HG1 := hide (grown_trans HG.out hg1)
        have HO1 := hide (HO.out.grown hg1 HLo.out.p)
        clear hrd1 hg1 HG HO
        rw [HA1.out]
        generalize hgc : ys.getD n1 0 = c at *
        clear hgc
        go_wp2_with (at_builtin; refine wpList_append_src (by rfl) (.tmp 38) (.tmp 40) 22 22 (by rfl) i0 Try.underlying22 hi hz0 hz1 hz2 (.slice a1 n1 c1) (ys.take n1) (by rfl) (HO1.out.own.alloc _) (.slice (some ⟨W1.heap.size, 0, none⟩) 1 1) 1 [c] (by rfl) (src_one _ _) (by simp; omega) ?_; intro v' w1 hown1 hg1 hf1; obtain ⟨a3, n3, c3, rfl, HN3⟩ := hown1.shape2; have HGa := hide hg1; have HFa := hide hf1; have HOa := hide hown1; clear hown1 hg1 hf1)
        have HCl := hide (app_close HBB.out HLo.out HR1.out HG1.out HO1.out HOa.out HGa.out HFa.out)
        have hlen : (esc (ys.take (n1 + 1))).length = (esc (ys.take n1)).length + 1 := by rw [HEs'.out]; simp
        have hn3 : n3 = n1 + 1 := by rw [HN3.out]; simp; omega
        go_roundw
        case rel => exact ⟨n1 + 1, by omega, by rw [HTs.out]; exact HCl.out.1, by rw [hlen]; exact HCl.out.2.1, by rw [hlen]; exact HA3.out, HCl.out.2.2⟩
        case measure => simp [lenV]; omega
    · have hke : ys.take n1 = ys := List.take_of_length_le (by omega)
      have hkd : ys.drop n1 = [] := List.drop_eq_nil_of_le (by omega)
      have hd0 := HDr.out
      rw [hke, hkd] at hd0
      rw [hke] at HO HRd
      simp only [esc, List.flatMap_nil, List.nil_append] at hd0
      obtain ⟨h1, h2, h3⟩ := head_at _ _ _ _ _ hd0
      obtain ⟨h4, h5, h6⟩ := head_at _ _ _ _ _ h3
      have HA1 := hide h2
      have HA2 := hide h5
      have hnl : n1 = ys.length := by omega
      have HNl := hide hnl
      clear hd0 h2 h3 h5 h6 hke hkd hnl
      go_wp2_with fail
      refine (next_in p a cap bs _ n q m wr HRd.out h1).mono ?_
      rintro e W1 ⟨rfl, hrd1, hg1⟩
      have HR1 := hide hrd1
      have HG1 := hide (grown_trans HG.out hg1)
      have HO1 := hide (HO.out.grown hg1 HLo.out.p)
      clear hrd1 hg1 HG HO
      have hA1 : tn m (bs.getD (i + (esc ys).length) 0) = 0 := HA1.out
      rw [hA1]
      clear hA1
      go_wp2_with fail
      refine (next_in p a cap bs _ n q m W1 HR1.out h4).mono ?_
      rintro e W2 ⟨rfl, hrd2, hg2⟩
      have HR2 := hide hrd2
      have HG2 := hide (grown_trans HG1.out hg2)
      have HO2 := hide (HO1.out.grown hg2 HLo.out.p)
      clear hrd2 hg2 HG1 HO1 HR1
      have hA2 : tn m (bs.getD (i + (esc ys).length + 1) 0) = 1 := HA2.out
      rw [hA2]
      clear hA2
      go_wp2
      go_ret2
      exact ⟨a1, c1, by rw [← HNl.out]; rfl, by rw [← HNl.out]; exact HO2.out, HR2.out, HG2.out⟩
end Go.Proofs.Ytegoeaofjnpehab
/- The reader: a value, a text or a number. -/
namespace Go.Proofs.Ytegoeaofjnpehab
open Go.RowKit
set_option linter.unusedVariables false

theorem Own.row {w : World} {a : Option Addr} {n c : Nat} {zs : List Int} (h : Own w (.slice a n c) zs) : Row w a zs := by
  obtain ⟨a', c', e, _, _, _, hr, _⟩ := h.shape
  cases e
  exact hr
theorem Box7.grown {W W' : World} {b p : Nat} {c0 c1 c2 c3 c4 c5 c6 : Value} (h : Box7 W b c0 c1 c2 c3 c4 c5 c6) (hg : W.grownBy W' (some p)) (hne : b ≠ p) : Box7 W' b c0 c1 c2 c3 c4 c5 c6 := (hg.block b h.lt (fun e => by cases e; exact hne rfl)).trans h

/-- a value stored. -/
theorem Box7.set7 {W : World} {b : Nat} {c0 c1 c2 c3 c4 c5 c6 : Value} (h : Box7 W b c0 c1 c2 c3 c4 c5 c6) (d0 d1 d2 d3 d4 d5 d6 : Value) :
    Box7 (((((((W.setCell ⟨b, 0, none⟩ d0).setCell ⟨b, 1, none⟩ d1).setCell ⟨b, 2, none⟩ d2).setCell ⟨b, 3, none⟩ d3).setCell ⟨b, 4, none⟩ d4).setCell ⟨b, 5, none⟩ d5).setCell ⟨b, 6, none⟩ d6) b d0 d1 d2 d3 d4 d5 d6 := by
  have h0 : Box7 (W.setCell ⟨b, 0, none⟩ d0) b d0 c1 c2 c3 c4 c5 c6 := by unfold Box7; rw [heap_setCell_same W b 0 _ 32 _ h]; rfl
  have h1 : Box7 ((W.setCell ⟨b, 0, none⟩ d0).setCell ⟨b, 1, none⟩ d1) b d0 d1 c2 c3 c4 c5 c6 := by unfold Box7; rw [heap_setCell_same _ b 1 _ 32 _ h0]; rfl
  have h2 : Box7 (((W.setCell ⟨b, 0, none⟩ d0).setCell ⟨b, 1, none⟩ d1).setCell ⟨b, 2, none⟩ d2) b d0 d1 d2 c3 c4 c5 c6 := by unfold Box7; rw [heap_setCell_same _ b 2 _ 32 _ h1]; rfl
  have h3 : Box7 ((((W.setCell ⟨b, 0, none⟩ d0).setCell ⟨b, 1, none⟩ d1).setCell ⟨b, 2, none⟩ d2).setCell ⟨b, 3, none⟩ d3) b d0 d1 d2 d3 c4 c5 c6 := by unfold Box7; rw [heap_setCell_same _ b 3 _ 32 _ h2]; rfl
  have h4 : Box7 (((((W.setCell ⟨b, 0, none⟩ d0).setCell ⟨b, 1, none⟩ d1).setCell ⟨b, 2, none⟩ d2).setCell ⟨b, 3, none⟩ d3).setCell ⟨b, 4, none⟩ d4) b d0 d1 d2 d3 d4 c5 c6 := by unfold Box7; rw [heap_setCell_same _ b 4 _ 32 _ h3]; rfl
  have h5 : Box7 ((((((W.setCell ⟨b, 0, none⟩ d0).setCell ⟨b, 1, none⟩ d1).setCell ⟨b, 2, none⟩ d2).setCell ⟨b, 3, none⟩ d3).setCell ⟨b, 4, none⟩ d4).setCell ⟨b, 5, none⟩ d5) b d0 d1 d2 d3 d4 d5 c6 := by unfold Box7; rw [heap_setCell_same _ b 5 _ 32 _ h4]; rfl
  unfold Box7; rw [heap_setCell_same _ b 6 _ 32 _ h5]; rfl
theorem grown_set7 (W : World) (b : Nat) (d0 d1 d2 d3 d4 d5 d6 : Value) :
    W.grownBy (((((((W.setCell ⟨b, 0, none⟩ d0).setCell ⟨b, 1, none⟩ d1).setCell ⟨b, 2, none⟩ d2).setCell ⟨b, 3, none⟩ d3).setCell ⟨b, 4, none⟩ d4).setCell ⟨b, 5, none⟩ d5).setCell ⟨b, 6, none⟩ d6) (some b) :=
  grown_trans (grown_setCell _ _ _ _) (grown_trans (grown_setCell _ _ _ _) (grown_trans (grown_setCell _ _ _ _) (grown_trans (grown_setCell _ _ _ _) (grown_trans (grown_setCell _ _ _ _) (grown_trans (grown_setCell _ _ _ _) (grown_setCell _ _ _ _))))))
set_option maxHeartbeats 3200000 in
set_option maxRecDepth 1000000 in
theorem value_text (p : Nat) (a : Option Addr) (cap : Nat) (bs : List Int) (i n q : Nat) (m : Int) (ys rest : List Int) (w : World) (hr : Rdr w p a cap bs i n q m) (hn : n < 512) (hE : (bs.drop i).map (tn m) = esc ys ++ 0 :: 1 :: rest) (hy : Byts ys) (hl : ys.length ≤ 4000) :
    Calls Try.prog 31 #[.pointer (some ⟨p, 0, none⟩), .int .u8 64] w fun e w' => e = .returned (.tuple #[vT (bk ys), .bool true]) ∧ Rdr w' p a cap bs (i + (esc ys).length + 2) (n + 1) q m ∧ w.grownBy w' (some p) := by
  have hne : bs ≠ [] := fun e => by subst e; simp at hE
  have HLo := hide (hr.low hne)
  clear hne
  have hpb := hr.lt
  have hpne : w.heap.size ≠ p := by omega
  have k2 := hr.c2
  have f2 := hr.f 2
  have HRy := hide (hr.setParts (n + 1) (by omega))
  have HGy := hide (grown_setCell w p 2 (.int .i64 ((n + 1 : Nat) : Int)))
  have k3 := HRy.out.c2
  rw [show ((n + 1 : Nat) : Int) = (n : Int) + 1 by omega] at k3 HRy HGy
  have HSz : Hid ((w.setCell ⟨p, 2, none⟩ (.int .i64 ((n : Int) + 1))).heap.size = w.heap.size) := by simp [World.setCell, Hid]
  have HB1 := hide (Box7.new (w.setCell ⟨p, 2, none⟩ (.int .i64 ((n : Int) + 1))) (.int .u8 0) (.bool false) (.int .i64 0) (.string ⟨#[]⟩) (.slice none 0 0) (.slice none 0 0) (.slice none 0 0))
  rw [HSz.out] at HB1
  have HR1 := hide (HRy.out.below (below_alloc _ (.cells #[.int .u8 0, .bool false, .int .i64 0, .string ⟨#[]⟩, .slice none 0 0, .slice none 0 0, .slice none 0 0] 32)))
  have HG1 : Hid (w.grownBy ((w.setCell ⟨p, 2, none⟩ (.int .i64 ((n : Int) + 1))).alloc (.cells #[.int .u8 0, .bool false, .int .i64 0, .string ⟨#[]⟩, .slice none 0 0, .slice none 0 0, .slice none 0 0] 32)) (some p)) := grown_trans HGy.out (grown_below (below_alloc _ _))
  have HE := hide hE
  have HY := hide hy
  clear hr hE hy
  go_enter Try.func31, Try.ntmps31
  go_wp2_with fail
  clear k2 f2 k3
  generalize (w.setCell ⟨p, 2, none⟩ (.int .i64 ((n : Int) + 1))).alloc (.cells #[.int .u8 0, .bool false, .int .i64 0, .string ⟨#[]⟩, .slice none 0 0, .slice none 0 0, .slice none 0 0] 32) = X1 at *
  refine (content_in p a cap bs i (n + 1) q m ys rest X1 HR1.out HE.out HY.out hl).mono ?_
  rintro e W1 ⟨a', c', rfl, hown, hrd, hg⟩
  have HR2 := hide hrd
  have HG2 := hide (grown_trans HG1.out hg)
  have HB2 := hide (HB1.out.grown hg hpne)
  have hcv := run_text W1 a' ys.length c' ys rfl (fun e => by have h1 := hown.own.shape; obtain ⟨a2, c2, e2, _, _, hz, _⟩ := h1; cases e2; exact hz e) hown.own.row HY.out
  obtain ⟨j0, j1, j2, j3, j4, j5, j6⟩ := HB2.out.cells
  have fr := HB2.out.free
  clear hown hrd hg
  go_wp2
  have HBz := hide (HB2.out.set7 (.int .u8 4) (.bool false) (.int .i64 0) (.string (bk ys)) (.slice none 0 0) (.slice none 0 0) (.slice none 0 0))
  have HGz := hide (grown_set7 W1 w.heap.size (.int .u8 4) (.bool false) (.int .i64 0) (.string (bk ys)) (.slice none 0 0) (.slice none 0 0) (.slice none 0 0))
  generalize ((((((W1.setCell ⟨w.heap.size, 0, none⟩ (.int .u8 4)).setCell ⟨w.heap.size, 1, none⟩ (.bool false)).setCell ⟨w.heap.size, 2, none⟩ (.int .i64 0)).setCell ⟨w.heap.size, 3, none⟩ (.string (bk ys))).setCell ⟨w.heap.size, 4, none⟩ (.slice none 0 0)).setCell ⟨w.heap.size, 5, none⟩ (.slice none 0 0)).setCell ⟨w.heap.size, 6, none⟩ (.slice none 0 0) = Z at *
  obtain ⟨z0, z1, z2, z3, z4, z5, z6⟩ := HBz.out.cells
  refine bodyPost_ret (v := .tuple #[vT (bk ys), .bool true]) ?_ rfl ?_
  · simp [results, Try.results31, go_sem, z0, z1, z2, z3, z4, z5, z6]
  · exact ⟨rfl, HR2.out.grown HLo.out HGz.out (fun k e => by cases e; exact Nat.le_refl _), grown_new HG2.out HGz.out (fun k e => by cases e; exact Nat.le_refl _)⟩
set_option maxHeartbeats 3200000 in
set_option maxRecDepth 1000000 in
theorem value_num (p : Nat) (a : Option Addr) (cap : Nat) (bs : List Int) (i n q : Nat) (m : Int) (w : World) (hr : Rdr w p a cap bs i n q m) (hn : n < 512) (hE : i + 8 ≤ bs.length) :
    Calls Try.prog 31 #[.pointer (some ⟨p, 0, none⟩), .int .u8 48] w fun e w' => e = .returned (.tuple #[vI (unX (jb (((bs.drop i).take 8).map (tn m)))), .bool true]) ∧ Rdr w' p a cap bs (i + 8) (n + 1) q m ∧ w.grownBy w' (some p) := by
  have hne : bs ≠ [] := fun e => by subst e; simp at hE
  have HLo := hide (hr.low hne)
  clear hne
  have hpb := hr.lt
  have hpne : w.heap.size ≠ p := by omega
  have k2 := hr.c2
  have f2 := hr.f 2
  have HRy := hide (hr.setParts (n + 1) (by omega))
  have HGy := hide (grown_setCell w p 2 (.int .i64 ((n + 1 : Nat) : Int)))
  have k3 := HRy.out.c2
  rw [show ((n + 1 : Nat) : Int) = (n : Int) + 1 by omega] at k3 HRy HGy
  have HSz : Hid ((w.setCell ⟨p, 2, none⟩ (.int .i64 ((n : Int) + 1))).heap.size = w.heap.size) := by simp [World.setCell, Hid]
  have HB1 := hide (Box7.new (w.setCell ⟨p, 2, none⟩ (.int .i64 ((n : Int) + 1))) (.int .u8 0) (.bool false) (.int .i64 0) (.string ⟨#[]⟩) (.slice none 0 0) (.slice none 0 0) (.slice none 0 0))
  rw [HSz.out] at HB1
  have HR1 := hide (HRy.out.below (below_alloc _ (.cells #[.int .u8 0, .bool false, .int .i64 0, .string ⟨#[]⟩, .slice none 0 0, .slice none 0 0, .slice none 0 0] 32)))
  have HG1 : Hid (w.grownBy ((w.setCell ⟨p, 2, none⟩ (.int .i64 ((n : Int) + 1))).alloc (.cells #[.int .u8 0, .bool false, .int .i64 0, .string ⟨#[]⟩, .slice none 0 0, .slice none 0 0, .slice none 0 0] 32)) (some p)) := grown_trans HGy.out (grown_below (below_alloc _ _))
  have HE := hide hE
  clear hr
  go_enter Try.func31, Try.ntmps31
  go_wp2_with fail
  clear k2 f2 k3
  generalize (w.setCell ⟨p, 2, none⟩ (.int .i64 ((n : Int) + 1))).alloc (.cells #[.int .u8 0, .bool false, .int .i64 0, .string ⟨#[]⟩, .slice none 0 0, .slice none 0 0, .slice none 0 0] 32) = X1 at *
  refine (number_in p a cap bs i (n + 1) q m X1 HR1.out HE.out).mono ?_
  rintro e W1 ⟨rfl, hrd, hg⟩
  generalize hV : unX (jb (((bs.drop i).take 8).map (tn m))) = V at *
  have HV := hide hV
  clear hV
  have HR2 := hide hrd
  have HG2 := hide (grown_trans HG1.out hg)
  have HB2 := hide (HB1.out.grown hg hpne)
  obtain ⟨j0, j1, j2, j3, j4, j5, j6⟩ := HB2.out.cells
  have fr := HB2.out.free
  clear hrd hg
  go_wp2
  have HBz := hide (HB2.out.set7 (.int .u8 3) (.bool false) (.int .i64 V) (.string ⟨#[]⟩) (.slice none 0 0) (.slice none 0 0) (.slice none 0 0))
  have HGz := hide (grown_set7 W1 w.heap.size (.int .u8 3) (.bool false) (.int .i64 V) (.string ⟨#[]⟩) (.slice none 0 0) (.slice none 0 0) (.slice none 0 0))
  generalize ((((((W1.setCell ⟨w.heap.size, 0, none⟩ (.int .u8 3)).setCell ⟨w.heap.size, 1, none⟩ (.bool false)).setCell ⟨w.heap.size, 2, none⟩ (.int .i64 V)).setCell ⟨w.heap.size, 3, none⟩ (.string ⟨#[]⟩)).setCell ⟨w.heap.size, 4, none⟩ (.slice none 0 0)).setCell ⟨w.heap.size, 5, none⟩ (.slice none 0 0)).setCell ⟨w.heap.size, 6, none⟩ (.slice none 0 0) = Z at *
  obtain ⟨z0, z1, z2, z3, z4, z5, z6⟩ := HBz.out.cells
  rw [← HV.out] at z2
  refine bodyPost_ret (v := .tuple #[vI (unX (jb (((bs.drop i).take 8).map (tn m)))), .bool true]) ?_ rfl ?_
  · simp [results, Try.results31, go_sem, z0, z1, z2, z3, z4, z5, z6]
  · exact ⟨rfl, HR2.out.grown HLo.out HGz.out (fun k e => by cases e; exact Nat.le_refl _), grown_new HG2.out HGz.out (fun k e => by cases e; exact Nat.le_refl _)⟩

theorem Rdr.start (w : World) (o : Obj) (m : Int) (a : Option Addr) (cap : Nat) (bs : List Int) (hrow : Row w a bs) (hby : Byts bs) (hsm : bs.length ≤ 1000000) (hm : 0 ≤ m ∧ m ≤ 255) (h0 : 0 < bs.length) :
    Rdr (((w.alloc o).alloc (.cells #[.int .u8 m] 5)).alloc (.cells #[.slice a bs.length cap, .int .i64 0, .int .i64 0, .func (.func 36) #[] #[.pointer (some ⟨w.heap.size + 1, 0, none⟩)]] 62)) (w.heap.size + 1 + 1) a cap bs 0 0 (w.heap.size + 1) m := by
  refine ⟨?_, ((hrow.below (below_alloc _ _)).below (below_alloc _ _)).below (below_alloc _ _), hby, fun ad e => ?_, ?_, by omega, hsm, by omega, hm⟩
  · have := heap_alloc_new ((w.alloc o).alloc (.cells #[.int .u8 m] 5)) (.cells #[.slice a bs.length cap, .int .i64 0, .int .i64 0, .func (.func 36) #[] #[.pointer (some ⟨w.heap.size + 1, 0, none⟩)]] 62)
    simpa using this
  · rcases hrow with h1 | ⟨b, o', rfl, hlt, _⟩
    · subst h1; simp at h0
    · cases e
      show b ≠ _
      omega
  · have := heap_alloc_new (w.alloc o) (.cells #[.int .u8 m] 5)
    rw [World.size_alloc] at this
    exact (Below.heap_alloc _ _ _ (by simp)).trans this
theorem Row.grown {w w' : World} {a : Option Addr} {zs : List Int} {r : Option Nat} {B : Nat} (h : Row w a zs) (hg : w.grownBy w' r) (hl : ∀ ad, a = some ad → ad.block < B) (hr : ∀ k, r = some k → B ≤ k) : Row w' a zs := by
  rcases h with h1 | ⟨b, o, rfl, hlt, hc⟩
  · exact .inl h1
  · exact .inr ⟨b, o, rfl, Nat.lt_of_lt_of_le hlt hg.size, fun j hj => (World.cell?_of_block (a := ⟨b, o + j, none⟩) (hg.block b hlt (fun e => by have := hr b e.symm; have := hl _ rfl; simp at this; omega))).trans (hc j hj)⟩
set_option maxHeartbeats 3200000 in
set_option maxRecDepth 1000000 in
theorem first_leaf (d : Bool) (m mark : Int) (a : Option Addr) (cap : Nat) (bs : List Int) (j : Nat) (k n : Int) (t : ByteArray) (w : World) (hrow : Row w a bs) (hby : Byts bs) (hsm : bs.length ≤ 1000000) (hm : 0 ≤ m ∧ m ≤ 255) (h0 : 0 < bs.length) (hmk : tn m (bs.getD 0 0) = mark)
    (HT : Hid (∀ W, Calls Try.prog 23 #[.bool d] W fun e w' => e = .returned (.func (.func 36) #[] #[.pointer (some ⟨W.heap.size, 0, none⟩)]) ∧ w' = W.alloc (.cells #[.int .u8 m] 5)))
    (HC : Hid (∀ W, Calls Try.prog 21 #[.agg #[.int .u8 k, .bool false, .int .i64 n, .string t, .slice none 0 0, .slice none 0 0, .slice none 0 0]] W fun e w' => e = .returned (.int .u16 0) ∧ Below W.heap.size W w'))
    (HV : Hid (∀ W p q, Rdr W p a cap bs 1 0 q m → Calls Try.prog 31 #[.pointer (some ⟨p, 0, none⟩), .int .u8 mark] W fun e W' => e = .returned (.tuple #[.agg #[.int .u8 k, .bool false, .int .i64 n, .string t, .slice none 0 0, .slice none 0 0, .slice none 0 0], .bool true]) ∧ Rdr W' p a cap bs j 1 q m ∧ W.grownBy W' (some p))) :
    Calls Try.prog 18 #[.slice a bs.length cap, .bool d] w fun e w' => e = .returned (.tuple #[.agg #[.int .u8 k, .bool false, .int .i64 n, .string t, .slice none 0 0, .slice none 0 0, .slice none 0 0], .int .i64 (j : Int), .bool true]) ∧ Below w.heap.size w w' := by
  have HB0 := hide (Box7.new w (.int .u8 0) (.bool false) (.int .i64 0) (.string ⟨#[]⟩) (.slice none 0 0) (.slice none 0 0) (.slice none 0 0))
  go_enter Try.func18, Try.ntmps18
  go_wp2_with fail
  refine (HT.out _).mono ?_
  rintro e W1 ⟨rfl, rfl⟩
  have HF1 := hide ((((Fr.refl w).alloc (.cells #[.int .u8 0, .bool false, .int .i64 0, .string ⟨#[]⟩, .slice none 0 0, .slice none 0 0, .slice none 0 0] 32)).alloc (.cells #[.int .u8 m] 5)).alloc (.cells #[.slice a bs.length cap, .int .i64 0, .int .i64 0, .func (.func 36) #[] #[.pointer (some ⟨w.heap.size + 1, 0, none⟩)]] 62))
  have HR1 := hide (Rdr.start w (.cells #[.int .u8 0, .bool false, .int .i64 0, .string ⟨#[]⟩, .slice none 0 0, .slice none 0 0, .slice none 0 0] 32) m a cap bs hrow hby hsm hm h0)
  have HB1 := hide ((HB0.out.below (below_alloc _ (.cells #[.int .u8 m] 5))).below (below_alloc _ (.cells #[.slice a bs.length cap, .int .i64 0, .int .i64 0, .func (.func 36) #[] #[.pointer (some ⟨w.heap.size + 1, 0, none⟩)]] 62)))
  have HMk := hide hmk
  clear hmk hrow HB0
  go_wp2_with fail
  generalize ((w.alloc (.cells #[.int .u8 0, .bool false, .int .i64 0, .string ⟨#[]⟩, .slice none 0 0, .slice none 0 0, .slice none 0 0] 32)).alloc (.cells #[.int .u8 m] 5)).alloc (.cells #[.slice a bs.length cap, .int .i64 0, .int .i64 0, .func (.func 36) #[] #[.pointer (some ⟨w.heap.size + 1, 0, none⟩)]] 62) = X1 at *
  generalize hB : w.heap.size = B at *
  have HBB := hide hB
  clear hB
  refine (next_in (B + 1 + 1) a cap bs 0 0 (B + 1) m X1 HR1.out h0).mono ?_
  rintro e W2 ⟨rfl, hrd, hg⟩
  have HR2 := hide hrd
  have HF2 := hide (HF1.out.grown hg (fun k e => by cases e; omega))
  have HB2 := hide (HB1.out.grown hg (by omega))
  clear hrd hg HB1 HF1 HR1
  rw [HMk.out]
  go_wp2_with fail
  refine (HV.out W2 (B + 1 + 1) (B + 1) HR2.out).mono ?_
  rintro e W3 ⟨rfl, hrd, hg⟩
  have HR3 := hide hrd
  have HF3 := hide (HF2.out.grown hg (fun k e => by cases e; omega))
  have HB3 := hide (HB2.out.grown hg (by omega))
  clear hrd hg HB2 HF2 HR2
  have HR4 := hide (HR3.out.below (below_alloc W3 (.cells #[.int .u8 k, .bool false, .int .i64 n, .string t, .slice none 0 0, .slice none 0 0, .slice none 0 0] 32)))
  have HF4 := hide (HF3.out.alloc (.cells #[.int .u8 k, .bool false, .int .i64 n, .string t, .slice none 0 0, .slice none 0 0, .slice none 0 0] 32))
  have HB4 := hide (HB3.out.below (below_alloc W3 (.cells #[.int .u8 k, .bool false, .int .i64 n, .string t, .slice none 0 0, .slice none 0 0, .slice none 0 0] 32)))
  have HC4 := hide (Box7.new W3 (.int .u8 k) (.bool false) (.int .i64 n) (.string t) (.slice none 0 0) (.slice none 0 0) (.slice none 0 0))
  have hb1 := HB3.out.lt
  have hb2 := HR3.out.lt
  go_wp2_with fail
  refine (HC.out _).mono ?_
  rintro e W5 ⟨rfl, hb⟩
  have HR5 := hide (HR4.out.below hb)
  have HF5 := hide (HF4.out.on hb)
  have HB5 := hide (HB4.out.below hb)
  have HC5 := hide (HC4.out.below hb)
  clear hb HR4 HF4 HB4 HC4 HR3 HF3 HB3
  generalize W3.heap.size = c at *
  obtain ⟨j0, j1, j2, j3, j4, j5, j6⟩ := HC5.out.cells
  obtain ⟨l0, l1, l2, l3, l4, l5, l6⟩ := HB5.out.cells
  have fr := HB5.out.free
  have r1 := HR5.out.c1
  go_wp2
  go_region
  have HBz := hide ((HB5.out.set7 (.int .u8 k) (.bool false) (.int .i64 n) (.string t) (.slice none 0 0) (.slice none 0 0) (.slice none 0 0)).below (Below.refl _ _).drew)
  have HFz := hide ((HF5.out.grown (grown_set7 W5 B (.int .u8 k) (.bool false) (.int .i64 n) (.string t) (.slice none 0 0) (.slice none 0 0) (.slice none 0 0)) (fun x e => by cases e; exact Nat.le_refl _)).drew)
  generalize (((((((W5.setCell ⟨B, 0, none⟩ (.int .u8 k)).setCell ⟨B, 1, none⟩ (.bool false)).setCell ⟨B, 2, none⟩ (.int .i64 n)).setCell ⟨B, 3, none⟩ (.string t)).setCell ⟨B, 4, none⟩ (.slice none 0 0)).setCell ⟨B, 5, none⟩ (.slice none 0 0)).setCell ⟨B, 6, none⟩ (.slice none 0 0)).drew = Z at *
  obtain ⟨z0, z1, z2, z3, z4, z5, z6⟩ := HBz.out.cells
  clear j0 j1 j2 j3 j4 j5 j6 l0 l1 l2 l3 l4 l5 l6 fr r1
  go_wp2
  refine bodyPost_ret (v := .tuple #[.agg #[.int .u8 k, .bool false, .int .i64 n, .string t, .slice none 0 0, .slice none 0 0, .slice none 0 0], .int .i64 (j : Int), .bool true]) ?_ rfl ?_
  · simp [results, Try.results18, go_sem, z0, z1, z2, z3, z4, z5, z6]
  · exact ⟨rfl, by rw [HBB.out]; exact HFz.out.below⟩
end Go.Proofs.Ytegoeaofjnpehab
/- Contract of Decode, of the known bytes. -/
namespace Go.Proofs.Ytegoeaofjnpehab
open Go.RowKit
set_option linter.unusedVariables false

theorem Try.info41 : (Try.prog.info? 32).map (fun i => (i.zero, i.size, i.bytes)) = some (some (.agg #[.int .u8 0, .bool false, .int .i64 0, .string ⟨#[]⟩, .slice none 0 0, .slice none 0 0, .slice none 0 0]), 7, 104) := by kernel_rfl
def kb : List Int := [64, 97, 0, 1, 207, 127, 255, 255, 255, 255, 255, 255, 254]
theorem kb_is : k1 ++ k2 = kb := by decide
theorem kb_byts : Byts kb := by unfold Byts kb; decide
theorem kb4_byts : Byts (kb.drop 4) := kb_byts.drop 4
theorem bk97 : bk [97] = ⟨#[97]⟩ := rfl
theorem first_one (cap : Nat) (a : Option Addr) (w : World) (hrow : Row w a kb) :
    Calls Try.prog 18 #[.slice a kb.length cap, .bool false] w fun e w' => e = .returned (.tuple #[vT ⟨#[97]⟩, .int .i64 4, .bool true]) ∧ Below w.heap.size w w' :=
  first_leaf false 0 64 a cap kb 4 4 0 ⟨#[97]⟩ w hrow kb_byts (by decide) (by omega) (by decide) (by decide) (fun W => turning_up W) (fun W => checkT W)
    (fun W p q h => value_text p a cap kb 1 0 q 0 [97] (kb.drop 4) W h (by omega) (by decide) (by unfold Byts; decide) (by decide))
theorem first_two (cap : Nat) (a : Option Addr) (w : World) (hrow : Row w a (kb.drop 4)) :
    Calls Try.prog 18 #[.slice a (kb.drop 4).length cap, .bool true] w fun e w' => e = .returned (.tuple #[vI 1, .int .i64 9, .bool true]) ∧ Below w.heap.size w w' :=
  first_leaf true 255 48 a cap (kb.drop 4) 9 3 1 ⟨#[]⟩ w hrow kb4_byts (by decide) (by omega) (by decide) (by decide) (fun W => turning_down W) (fun W => checkI 1 W)
    (fun W p q h => (show unX (jb ((((kb.drop 4).drop 1).take 8).map (tn 255))) = 1 by decide +kernel) ▸ value_num p a cap (kb.drop 4) 1 0 q 255 W h (by omega) (by decide))
theorem first_two' (cap b o : Nat) (w : World) (hrow : Row w (some ⟨b, o, none⟩) (kb.drop 4)) :
    Calls Try.prog 18 #[.slice (some ⟨b, o, none⟩) 9 cap, .bool true] w fun e w' => e = .returned (.tuple #[vI 1, .int .i64 9, .bool true]) ∧ Below w.heap.size w w' := first_two cap (some ⟨b, o, none⟩) w hrow
/-- the cells of the known tuple. -/
def kc1 : List Value := [.int .u8 4, .bool false, .int .i64 0, .string ⟨#[97]⟩, .slice none 0 0, .slice none 0 0, .slice none 0 0]
def kc2 : List Value := [.int .u8 3, .bool false, .int .i64 1, .string ⟨#[]⟩, .slice none 0 0, .slice none 0 0, .slice none 0 0]
theorem Row.drop {w : World} {b o : Nat} {zs : List Int} (h : Row w (some ⟨b, o, none⟩) zs) (k : Nat) : Row w (some ⟨b, o + k, none⟩) (zs.drop k) := by
  by_cases hk : k < zs.length
  · rcases h with h0 | ⟨b', o', e, hlt, hc⟩
    · subst h0; simp at hk
    · cases e
      refine .inr ⟨b, o + k, rfl, hlt, fun i hi => ?_⟩
      rw [List.length_drop] at hi
      have := hc (k + i) (by omega)
      rw [Nat.add_assoc, this]
      simp [List.getD_eq_getElem?_getD]
  · exact .inl (List.drop_eq_nil_of_le (by omega))

theorem owns_of_block {w w' : World} {B e s : Nat} {v : Value} {n : Nat} {xs : List Value} (h : w.ownsRow B e s v n xs) (hb : ∀ k, v.ownBlock = some k → w'.heap[k]? = w.heap[k]?) : w'.ownsRow B e s v n xs := by
  obtain ⟨h1, h2⟩ := h
  refine ⟨h1, ?_⟩
  rcases h2 with h2 | ⟨g, cap, cur, rfl, hg, hh, r⟩
  · exact .inl h2
  · exact .inr ⟨g, cap, cur, rfl, hg, by rw [hb g rfl]; exact hh, r⟩
theorem owns_below {w w' : World} {B e s : Nat} {v : Value} {n : Nat} {xs : List Value} (h : w.ownsRow B e s v n xs) (hb : Below w.heap.size w w') : w'.ownsRow B e s v n xs :=
  owns_of_block h fun k hk => hb.block k (World.ownsRow.lt h k hk).2
theorem news7 (w : World) (c0 c1 c2 c3 c4 c5 c6 : Value) : ∀ j u, [c0, c1, c2, c3, c4, c5, c6][j]? = some u → (w.alloc (.cells #[c0, c1, c2, c3, c4, c5, c6] 32)).cell? ((⟨w.heap.size, 0, none⟩ : Addr).add j) = some u := by
  intro j u hu
  obtain ⟨h0, h1, h2, h3, h4, h5, h6⟩ := (Box7.new w c0 c1 c2 c3 c4 c5 c6).cells
  rw [Addr.add_lit, Nat.zero_add]
  match j, hu with
  | 0, hu => simp at hu; subst hu; exact h0
  | 1, hu => simp at hu; subst hu; exact h1
  | 2, hu => simp at hu; subst hu; exact h2
  | 3, hu => simp at hu; subst hu; exact h3
  | 4, hu => simp at hu; subst hu; exact h4
  | 5, hu => simp at hu; subst hu; exact h5
  | 6, hu => simp at hu; subst hu; exact h6
  | j + 7, hu => simp at hu
theorem bcell {W w1 : World} (hb : Below W.heap.size W w1) : (∀ b o, b < W.heap.size → w1.cell? ⟨b, o, none⟩ = W.cell? ⟨b, o, none⟩) ∧ (∀ b o, b < W.heap.size → w1.frozen? ⟨b, o, none⟩ = W.frozen? ⟨b, o, none⟩) :=
  ⟨fun b o h => hb.cell (p := ⟨b, o, none⟩) h, fun b o h => hb.frozen (p := ⟨b, o, none⟩) h⟩
theorem ownsRow_shape {w : World} {B e s : Nat} {v : Value} {n : Nat} {xs : List Value} (h : w.ownsRow B e s v n xs) : ∃ a c, v = .slice a n c := by
  rcases h.2 with ⟨rfl, rfl⟩ | ⟨g, cap, cur, rfl, _⟩
  · exact ⟨none, 0, rfl⟩
  · exact ⟨_, _, rfl⟩
set_option maxHeartbeats 3200000 in
set_option maxRecDepth 1000000 in
theorem decode_known (b o cap bl bd : Nat) (w : World) (hrow : Row w (some ⟨b, o, none⟩) kb) (hk : Kn w bl bd) (hcap : 13 ≤ cap) :
    Calls Try.prog 6 #[.slice (some ⟨b, o, none⟩) 13 cap, .slice (some ⟨bd, 0, none⟩) 2 2] w fun e w' => ∃ v, e = .returned (.tuple #[v, .int .u16 0, .int .i64 0]) ∧ w'.ownsRow w.heap.size 32 7 v 2 (kc1 ++ kc2) ∧ Below w.heap.size w w' := by
  obtain ⟨i0, hi, hz0, hz1, hz2⟩ := info_parts Try.info41
  have hlt1 : bl < w.heap.size := lt_of_block hk.l
  have hlt2 : bd < w.heap.size := lt_of_block hk.d
  have HK := hide hk
  have HRw := hide hrow
  have HF0 := hide (Fr.refl w)
  clear hk hrow
  generalize hB : w.heap.size = B at *
  have HBB := hide hB
  clear hB
  go_enter Try.func6, Try.ntmps6
  go_wp2
  go_loopw [7, 8] (fun l s wr => ∃ (j n : Nat) (cs : List Value), s = .int .i64 (j : Int) ∧ ((j = 0 ∧ n = 0 ∧ cs = []) ∨ (j = 4 ∧ n = 1 ∧ cs = kc1) ∨ (j = 13 ∧ n = 2 ∧ cs = kc1 ++ kc2)) ∧ wr.ownsRow B 32 7 l n cs ∧ Fr B w wr) (fun _ s _ => 13 - (intOf s).toNat)
  case atStart => exact ⟨0, 0, [], rfl, .inl ⟨rfl, rfl, rfl⟩, World.ownsRow_nil w B 32 7, HF0.out⟩
  case round =>
    obtain ⟨j, n, cs, rfl, hj, hown, hfr⟩ := hrel
    have HF := hide hfr
    have HKr := hide (HK.out.on hfr.below hlt1 hlt2)
    have HRr : Hid (Row wr (some ⟨b, o, none⟩) kb) := by have h := HRw.out; exact h.below (by rw [HBB.out]; exact hfr.below)
    obtain ⟨a1, c1, rfl⟩ := ownsRow_shape hown
    have HO := hide hown
    clear hfr hown
    rcases hj with ⟨rfl, rfl, rfl⟩ | ⟨rfl, rfl, rfl⟩ | ⟨rfl, rfl, rfl⟩
    · have d0 := HKr.out.d0
      have hbd : bd < wr.heap.size := lt_of_block HKr.out.d
      have dA := (HKr.out.on (below_alloc wr (.cells #[.int .u8 0, .bool false, .int .i64 0, .string ⟨#[]⟩, .slice none 0 0, .slice none 0 0, .slice none 0 0] 32)) (lt_of_block HKr.out.l) hbd).d0
      have HBn := hide ((Box7.new wr (.int .u8 0) (.bool false) (.int .i64 0) (.string ⟨#[]⟩) (.slice none 0 0) (.slice none 0 0) (.slice none 0 0)).below (Below.refl _ _).drew)
      have HFn := hide ((HF.out.alloc (.cells #[.int .u8 0, .bool false, .int .i64 0, .string ⟨#[]⟩, .slice none 0 0, .slice none 0 0, .slice none 0 0] 32)).drew)
      have HOn := hide (owns_below HO.out (below_alloc wr (.cells #[.int .u8 0, .bool false, .int .i64 0, .string ⟨#[]⟩, .slice none 0 0, .slice none 0 0, .slice none 0 0] 32)).drew)
      have HFd := hide HF.out.drew
      have HOd := hide (owns_below HO.out (Below.refl _ _).drew)
      go_wp2
      go_region_law (first | (go_simp; go_at_call 19; refine (falls_at bd 0 2 2 0 false _ (by omega) (by omega) (by first | exact d0 | exact dA)).mono ?_; intro r' V1 hh; obtain ⟨rfl, rfl⟩ := hh) | (go_simp; go_at_call 18; refine (first_one _ _ _ (HRr.out.below (by first | exact (Below.refl _ _).drew | exact (below_alloc _ _).drew | exact ((Below.refl _ _).drew.alloc (Nat.le_refl _) _)))).mono ?_; intro r' V2 hh; obtain ⟨rfl, hb2⟩ := hh; obtain ⟨hcv, hfv⟩ := bcell hb2; have HB2 := hide hb2; clear hb2))
      all_goals clear hcv hfv d0 dA
      all_goals first
        | (have HBz := hide ((HBn.out.below HB2.out).set7 (.int .u8 4) (.bool false) (.int .i64 0) (.string ⟨#[97]⟩) (.slice none 0 0) (.slice none 0 0) (.slice none 0 0))
           have HFz := hide ((HFn.out.on HB2.out).grown (grown_set7 V2 wr.heap.size (.int .u8 4) (.bool false) (.int .i64 0) (.string ⟨#[97]⟩) (.slice none 0 0) (.slice none 0 0) (.slice none 0 0)) (fun x e => by cases e; exact HF.out.size))
           have HOz := hide (owns_of_block (owns_below HOn.out HB2.out) (fun x hx => (grown_set7 V2 wr.heap.size (.int .u8 4) (.bool false) (.int .i64 0) (.string ⟨#[97]⟩) (.slice none 0 0) (.slice none 0 0) (.slice none 0 0)).block x (World.ownsRow.lt (owns_below HOn.out HB2.out) x hx).2 (fun e => by cases e; have := (World.ownsRow.lt HO.out _ hx).2; omega)))
           generalize ((((((V2.setCell ⟨wr.heap.size, 0, none⟩ (.int .u8 4)).setCell ⟨wr.heap.size, 1, none⟩ (.bool false)).setCell ⟨wr.heap.size, 2, none⟩ (.int .i64 0)).setCell ⟨wr.heap.size, 3, none⟩ (.string ⟨#[97]⟩)).setCell ⟨wr.heap.size, 4, none⟩ (.slice none 0 0)).setCell ⟨wr.heap.size, 5, none⟩ (.slice none 0 0)).setCell ⟨wr.heap.size, 6, none⟩ (.slice none 0 0) = Z at *
           generalize wr.heap.size = bx at *)
        | (have HBz := hide (Box7.new V2 (.int .u8 4) (.bool false) (.int .i64 0) (.string ⟨#[97]⟩) (.slice none 0 0) (.slice none 0 0) (.slice none 0 0))
           have HFz := hide ((HFd.out.on HB2.out).alloc (.cells #[.int .u8 4, .bool false, .int .i64 0, .string ⟨#[97]⟩, .slice none 0 0, .slice none 0 0, .slice none 0 0] 32))
           have HOz := hide (owns_below (owns_below HOd.out HB2.out) (below_alloc V2 (.cells #[.int .u8 4, .bool false, .int .i64 0, .string ⟨#[97]⟩, .slice none 0 0, .slice none 0 0, .slice none 0 0] 32)))
           generalize V2.alloc (.cells #[.int .u8 4, .bool false, .int .i64 0, .string ⟨#[97]⟩, .slice none 0 0, .slice none 0 0, .slice none 0 0] 32) = Z at *
           generalize V2.heap.size = bx at *)
      all_goals
        clear HBn HFn HOn HFd HOd HB2 HO HF
        obtain ⟨z0, z1, z2, z3, z4, z5, z6⟩ := HBz.out.cells
        have HNw := hide (news7 Z (.int .u8 4) (.bool false) (.int .i64 0) (.string ⟨#[97]⟩) (.slice none 0 0) (.slice none 0 0) (.slice none 0 0))
        go_wp2_with (at_builtin; refine wpList_append_own _ (by rfl) (.tmp 35) (.tmp 37) 24 (by rfl) B 32 i0 _ 7 104 Try.underlying24 hi hz0 hz1 hz2 (by rfl) (by omega) (.slice a1 0 c1) 0 [] (by rfl) (owns_below HOz.out (below_alloc _ _)) ⟨Z.heap.size, 0, none⟩ 1 1 kc1 (by rfl) (by rfl) HNw.out (by decide) (by decide) (by decide) (by have := HFz.out.size; simp; omega) ?_; intro v' w1 hown1 hg1 _; obtain ⟨a3, c3, rfl⟩ := ownsRow_shape hown1; have HFe := hide ((HFz.out.alloc (.cells #[.int .u8 4, .bool false, .int .i64 0, .string ⟨#[97]⟩, .slice none 0 0, .slice none 0 0, .slice none 0 0] 32)).grown hg1 (fun x hx => (World.ownsRow.lt HOz.out x hx).1)); have HOe := hide hown1; clear hown1 hg1)
        go_roundw
        case rel => exact ⟨4, 1, kc1, rfl, .inr (.inl ⟨rfl, rfl, rfl⟩), HOe.out, HFe.out⟩
        case measure => simp [intOf]
    · have hc4 : ¬ (cap = 4) := by omega
      have d0 := HKr.out.d1
      have hbd : bd < wr.heap.size := lt_of_block HKr.out.d
      have dA := (HKr.out.on (below_alloc wr (.cells #[.int .u8 0, .bool false, .int .i64 0, .string ⟨#[]⟩, .slice none 0 0, .slice none 0 0, .slice none 0 0] 32)) (lt_of_block HKr.out.l) hbd).d1
      have HBn := hide ((Box7.new wr (.int .u8 0) (.bool false) (.int .i64 0) (.string ⟨#[]⟩) (.slice none 0 0) (.slice none 0 0) (.slice none 0 0)).below (Below.refl _ _).drew)
      have HFn := hide ((HF.out.alloc (.cells #[.int .u8 0, .bool false, .int .i64 0, .string ⟨#[]⟩, .slice none 0 0, .slice none 0 0, .slice none 0 0] 32)).drew)
      have HOn := hide (owns_below HO.out (below_alloc wr (.cells #[.int .u8 0, .bool false, .int .i64 0, .string ⟨#[]⟩, .slice none 0 0, .slice none 0 0, .slice none 0 0] 32)).drew)
      have HFd := hide HF.out.drew
      have HOd := hide (owns_below HO.out (Below.refl _ _).drew)
      go_wp2
      go_region_law (first | (go_simp; go_at_call 19; refine (falls_at bd 0 2 2 1 true _ (by omega) (by omega) (by first | exact d0 | exact dA)).mono ?_; intro r' V1 hh; obtain ⟨rfl, rfl⟩ := hh) | (go_simp; go_at_call 18; refine (first_two' (cap - 4) b (o + 4) _ ((HRr.out.drop 4).below (by first | exact (Below.refl _ _).drew | exact (below_alloc _ _).drew | exact ((Below.refl _ _).drew.alloc (Nat.le_refl _) _)))).mono ?_; intro r' V2 hh; obtain ⟨rfl, hb2⟩ := hh; obtain ⟨hcv, hfv⟩ := bcell hb2; have HB2 := hide hb2; clear hb2))
      all_goals clear hcv hfv d0 dA
      all_goals first
        | (have HBz := hide ((HBn.out.below HB2.out).set7 (.int .u8 3) (.bool false) (.int .i64 1) (.string ⟨#[]⟩) (.slice none 0 0) (.slice none 0 0) (.slice none 0 0))
           have HFz := hide ((HFn.out.on HB2.out).grown (grown_set7 V2 wr.heap.size (.int .u8 3) (.bool false) (.int .i64 1) (.string ⟨#[]⟩) (.slice none 0 0) (.slice none 0 0) (.slice none 0 0)) (fun x e => by cases e; exact HF.out.size))
           have HOz := hide (owns_of_block (owns_below HOn.out HB2.out) (fun x hx => (grown_set7 V2 wr.heap.size (.int .u8 3) (.bool false) (.int .i64 1) (.string ⟨#[]⟩) (.slice none 0 0) (.slice none 0 0) (.slice none 0 0)).block x (World.ownsRow.lt (owns_below HOn.out HB2.out) x hx).2 (fun e => by cases e; have := (World.ownsRow.lt HO.out _ hx).2; omega)))
           generalize ((((((V2.setCell ⟨wr.heap.size, 0, none⟩ (.int .u8 3)).setCell ⟨wr.heap.size, 1, none⟩ (.bool false)).setCell ⟨wr.heap.size, 2, none⟩ (.int .i64 1)).setCell ⟨wr.heap.size, 3, none⟩ (.string ⟨#[]⟩)).setCell ⟨wr.heap.size, 4, none⟩ (.slice none 0 0)).setCell ⟨wr.heap.size, 5, none⟩ (.slice none 0 0)).setCell ⟨wr.heap.size, 6, none⟩ (.slice none 0 0) = Z at *
           generalize wr.heap.size = bx at *)
        | (have HBz := hide (Box7.new V2 (.int .u8 3) (.bool false) (.int .i64 1) (.string ⟨#[]⟩) (.slice none 0 0) (.slice none 0 0) (.slice none 0 0))
           have HFz := hide ((HFd.out.on HB2.out).alloc (.cells #[.int .u8 3, .bool false, .int .i64 1, .string ⟨#[]⟩, .slice none 0 0, .slice none 0 0, .slice none 0 0] 32))
           have HOz := hide (owns_below (owns_below HOd.out HB2.out) (below_alloc V2 (.cells #[.int .u8 3, .bool false, .int .i64 1, .string ⟨#[]⟩, .slice none 0 0, .slice none 0 0, .slice none 0 0] 32)))
           generalize V2.alloc (.cells #[.int .u8 3, .bool false, .int .i64 1, .string ⟨#[]⟩, .slice none 0 0, .slice none 0 0, .slice none 0 0] 32) = Z at *
           generalize V2.heap.size = bx at *)
      all_goals
        clear HBn HFn HOn HFd HOd HB2 HO HF
        obtain ⟨z0, z1, z2, z3, z4, z5, z6⟩ := HBz.out.cells
        have HNw := hide (news7 Z (.int .u8 3) (.bool false) (.int .i64 1) (.string ⟨#[]⟩) (.slice none 0 0) (.slice none 0 0) (.slice none 0 0))
        go_wp2_with (at_builtin; refine wpList_append_own _ (by rfl) (.tmp 35) (.tmp 37) 24 (by rfl) B 32 i0 _ 7 104 Try.underlying24 hi hz0 hz1 hz2 (by rfl) (by omega) (.slice a1 1 c1) 1 kc1 (by rfl) (owns_below HOz.out (below_alloc _ _)) ⟨Z.heap.size, 0, none⟩ 1 1 kc2 (by rfl) (by rfl) HNw.out (by decide) (by decide) (by decide) (by have := HFz.out.size; simp; omega) ?_; intro v' w1 hown1 hg1 _; obtain ⟨a3, c3, rfl⟩ := ownsRow_shape hown1; have HFe := hide ((HFz.out.alloc (.cells #[.int .u8 3, .bool false, .int .i64 1, .string ⟨#[]⟩, .slice none 0 0, .slice none 0 0, .slice none 0 0] 32)).grown hg1 (fun x hx => (World.ownsRow.lt HOz.out x hx).1)); have HOe := hide hown1; clear hown1 hg1)
        go_roundw
        case rel => exact ⟨13, 2, kc1 ++ kc2, rfl, .inr (.inr ⟨rfl, rfl, rfl⟩), HOe.out, HFe.out⟩
        case measure => simp [intOf]
    · go_wp2
      go_ret3
      exact ⟨.slice a1 2 c1, rfl, HO.out, HF.out.below⟩
end Go.Proofs.Ytegoeaofjnpehab
