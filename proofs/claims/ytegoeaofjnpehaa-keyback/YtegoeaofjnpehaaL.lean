/- The reader: the next byte, a number, what a text has. -/
import Derived.Test.YtegoeaofjnpehaaK
import Derived.Laws.Bits64b
import Derived.Laws.BytesString
namespace Go.Proofs.Ytegoeaofjnpehaa
open Go.RowKit
set_option linter.unusedVariables false

/-- bytes as a text. -/
def bk (ys : List Int) : ByteArray := ⟨(ys.map fun z => UInt8.ofNat z.toNat).toArray⟩
theorem sb_bk (ys : List Int) (h : Byts ys) : sb (bk ys) = ys := by
  unfold sb bk
  simp only [List.map_map]
  conv => rhs; rw [← List.map_id ys]
  apply List.map_congr_left
  intro z hz
  have := h z hz
  simp; omega
theorem run_text (w : World) (a : Option Addr) (n c : Nat) (ys : List Int) (hl : ys.length = n) (hn : a = none → n = 0 ∧ c = 0) (hr : Row w a ys) (hb : Byts ys) : (convert 25 9 (.slice a n c)).run Try.prog w = .ok (.string (bk ys)) w := by
  cases a with
  | none =>
    obtain ⟨rfl, rfl⟩ := hn rfl
    have e : ys = [] := List.eq_nil_of_length_eq_zero hl
    subst e
    rw [run_convert_bytes_string w 25 9 5 none 0 0 Try.underlying25 Try.underlying5 Try.underlying9]
    rfl
  | some ad =>
    have h := run_convert_bytes_back (P := Try.prog) w 25 9 5 ad c (ys.map fun z => UInt8.ofNat z.toNat) Try.underlying25 Try.underlying5 Try.underlying9 (by
      intro j hj
      rw [List.length_map] at hj
      refine hr.news ad rfl j _ ?_
      have := hb (ys[j]) (List.getElem_mem hj)
      simp [hj]
      omega)
    rw [List.length_map, hl] at h
    exact h

/-- the reader at p of the bytes bs stands at i, and has begun n values; what it reads passes through m. -/
structure Rdr (W : World) (p : Nat) (a : Option Addr) (cap : Nat) (bs : List Int) (i n q : Nat) (m : Int) : Prop where
  blk : W.heap[p]? = some (.cells #[.slice a bs.length cap, .int .i64 (i : Int), .int .i64 (n : Int), .func (.func 36) #[] #[.pointer (some ⟨q, 0, none⟩)]] 67 (0, 0))
  row : Row W a bs
  byts : Byts bs
  off : ∀ ad, a = some ad → ad.block ≠ p
  tq : W.heap[q]? = some (.cells #[.int .u8 m] 5 (0, 0))
  le : i ≤ bs.length
  small : bs.length ≤ 1000000
  many : n ≤ 1000000
  md : 0 ≤ m ∧ m ≤ 255
section
variable {w w' : World} {p : Nat} {a : Option Addr} {cap : Nat} {bs : List Int} {i n q : Nat} {m : Int}
theorem Rdr.lt (h : Rdr w p a cap bs i n q m) : p < w.heap.size := lt_of_block h.blk
theorem Rdr.ne (h : Rdr w p a cap bs i n q m) : q ≠ p := fun e => by
  have h1 := h.blk
  have h2 := h.tq
  rw [e, h1] at h2
  simp at h2
theorem Rdr.c0 (h : Rdr w p a cap bs i n q m) : w.cell? ⟨p, 0, none⟩ = some (.slice a bs.length cap) := by simp [World.cell?, h.blk]
theorem Rdr.c1 (h : Rdr w p a cap bs i n q m) : w.cell? ⟨p, 1, none⟩ = some (.int .i64 (i : Int)) := by simp [World.cell?, h.blk]
theorem Rdr.c2 (h : Rdr w p a cap bs i n q m) : w.cell? ⟨p, 2, none⟩ = some (.int .i64 (n : Int)) := by simp [World.cell?, h.blk]
theorem Rdr.c3 (h : Rdr w p a cap bs i n q m) : w.cell? ⟨p, 3, none⟩ = some (.func (.func 36) #[] #[.pointer (some ⟨q, 0, none⟩)]) := by simp [World.cell?, h.blk]
theorem Rdr.f (h : Rdr w p a cap bs i n q m) (j : Nat) : w.frozen? ⟨p, j, none⟩ = false := by simp [World.frozen?, h.blk]
theorem Rdr.below (h : Rdr w p a cap bs i n q m) (hb : Below w.heap.size w w') : Rdr w' p a cap bs i n q m :=
  ⟨(hb.block p h.lt).trans h.blk, h.row.below hb, h.byts, h.off, (hb.block q (lt_of_block h.tq)).trans h.tq, h.le, h.small, h.many, h.md⟩
theorem Row.set {zs : List Int} {b j : Nat} (h : Row w a zs) (ho : ∀ ad, a = some ad → ad.block ≠ b) (v : Value) : Row (w.setCell ⟨b, j, none⟩ v) a zs := by
  rcases h with h | ⟨b', o, rfl, hlt, hc⟩
  · exact .inl h
  · refine .inr ⟨b', o, rfl, by simpa [World.setCell] using hlt, fun i hi => ?_⟩
    have e : b' ≠ b := ho _ rfl
    exact (World.cell?_of_block (a := ⟨b', o + i, none⟩) (Below.heap_setCell _ _ _ _ e)).trans (hc i hi)
theorem Rdr.setAt (h : Rdr w p a cap bs i n q m) (j : Nat) (hj : j ≤ bs.length) : Rdr (w.setCell ⟨p, 1, none⟩ (.int .i64 (j : Int))) p a cap bs j n q m := by
  refine ⟨?_, h.row.set h.off _, h.byts, h.off, (Below.heap_setCell _ _ _ _ (fun e => h.ne e)).trans h.tq, hj, h.small, h.many, h.md⟩
  rw [heap_setCell_same w p 1 _ 67 _ h.blk]; rfl
theorem Rdr.setParts (h : Rdr w p a cap bs i n q m) (j : Nat) (hj : j ≤ 1000000) : Rdr (w.setCell ⟨p, 2, none⟩ (.int .i64 (j : Int))) p a cap bs i j q m := by
  refine ⟨?_, h.row.set h.off _, h.byts, h.off, (Below.heap_setCell _ _ _ _ (fun e => h.ne e)).trans h.tq, h.le, h.small, hj, h.md⟩
  rw [heap_setCell_same w p 2 _ 67 _ h.blk]; rfl
theorem Rdr.at (h : Rdr w p a cap bs i n q m) (j : Nat) (hj : j < bs.length) : ∃ b o, a = some ⟨b, o, none⟩ ∧ w.cell? ⟨b, o + j, none⟩ = some (.int .u8 (bs.getD j 0)) := by
  rcases h.row with h0 | ⟨b, o, rfl, _, hc⟩
  · subst h0; simp at hj
  · exact ⟨b, o, rfl, hc j hj⟩
end
theorem grown_setCell (w : World) (p j : Nat) (v : Value) : w.grownBy (w.setCell ⟨p, j, none⟩ v) (some p) :=
  ⟨rfl, rfl, rfl, by simp [World.setCell], fun k _ hne => Below.heap_setCell _ _ _ _ (fun e => hne (by rw [e]))⟩
theorem grown_refl (w : World) (r : Option Nat) : w.grownBy w r := ⟨rfl, rfl, rfl, Nat.le_refl _, fun _ _ _ => rfl⟩
theorem grown_trans {a b c : World} {r : Option Nat} (h : a.grownBy b r) (k : b.grownBy c r) : a.grownBy c r :=
  ⟨k.os.trans h.os, k.tape.trans h.tape, k.output.trans h.output, Nat.le_trans h.size k.size, fun i hi hn => (k.block i (Nat.lt_of_lt_of_le hi h.size) hn).trans (h.block i hi hn)⟩
theorem grown_below {a b : World} {r : Option Nat} (h : Below a.heap.size a b) : a.grownBy b r := ⟨h.os, h.tape, h.output, h.size, fun i hi _ => h.block i hi⟩

set_option maxHeartbeats 1600000 in
set_option maxRecDepth 1000000 in
theorem next_in (p : Nat) (a : Option Addr) (cap : Nat) (bs : List Int) (i n q : Nat) (m : Int) (w : World) (hr : Rdr w p a cap bs i n q m) (hi : i < bs.length) :
    Calls Try.prog 31 #[.pointer (some ⟨p, 0, none⟩)] w fun e w' => e = .returned (.tuple #[.int .u8 (tn m (bs.getD i 0)), .bool true]) ∧ Rdr w' p a cap bs (i + 1) n q m ∧ w.grownBy w' (some p) := by
  have k0 := hr.c0
  have k1 := hr.c1
  have hs := hr.small
  have HR := hide hr
  clear hr
  have hd : ((i : Int) == (bs.length : Int)) = false := by simp; omega
  go_enter Try.func31, Try.ntmps31
  go_wp2
  go_quiet (fail)
  have HR1 := hide (HR.out.below (below_drewN (Below.refl _ _) nq))
  have HG1 : Hid (w.grownBy (w.drewN nq) (some p)) := grown_below (below_drewN (Below.refl _ _) nq)
  clear k0 k1
  generalize w.drewN nq = W1 at *
  have q1 := HR1.out.c1
  have f1 := HR1.out.f 1
  have HR2 := hide (HR1.out.setAt (i + 1) (by omega))
  have HG2 := hide (grown_trans HG1.out (grown_setCell W1 p 1 (.int .i64 ((i + 1 : Nat) : Int))))
  go_wp2
  rw [show (i : Int) + 1 = ((i + 1 : Nat) : Int) by omega]
  clear q1 f1
  generalize W1.setCell ⟨p, 1, none⟩ (.int .i64 ((i + 1 : Nat) : Int)) = W2 at *
  obtain ⟨b, o, rfl, hcb⟩ := HR2.out.at i hi
  have p0 := HR2.out.c0
  have p1 := HR2.out.c1
  rw [show ((i + 1 : Nat) : Int) = (i : Int) + 1 by omega] at p1
  have p3 := HR2.out.c3
  have HT := fun k => hide (turn_any (bs.getD i 0) m q (W2.drewN k) (HR2.out.byts.at i) HR2.out.md (HR2.out.below (below_drewN (Below.refl _ _) k)).tq)
  generalize hgc : bs.getD i 0 = c at *
  have HGc := hide hgc
  clear hgc
  have hwr : IntKind.i64.wrap (i : Int) = (i : Int) := by simp [IntKind.wrap, IntKind.bits, IntKind.signed]; omega
  clear hd
  go_wp2
  go_quiet (first | (go_at_call 36; exact Calls.quiet_of_same (HT _).out))
  go_wp2
  go_ret2
  exact ⟨by rw [HGc.out]; rfl, HR2.out.below (below_drewN (Below.refl _ _) _), grown_trans HG2.out (grown_below (below_drewN (Below.refl _ _) _))⟩

/-- bytes joined to a number, the highest first. -/
def jb : List Int → Nat
  | l => l.foldl (fun A c => A * 256 + c.toNat) 0
theorem jb_snoc (l : List Int) (c : Int) : jb (l ++ [c]) = jb l * 256 + c.toNat := by simp [jb]
theorem jb_lt (l : List Int) (h : Byts l) : jb l < 256 ^ l.length := by
  suffices ∀ (l : List Int) (A : Nat) (k : Nat), Byts l → A < 256 ^ k → l.foldl (fun A c => A * 256 + c.toNat) A < 256 ^ (k + l.length) by
    have := this l 0 0 h (by simp)
    simpa [jb] using this
  intro l
  induction l with
  | nil => intro A k _ hA; simpa using hA
  | cons c t ih =>
    intro A k hb hA
    have hc := hb c (by simp)
    have := ih (A * 256 + c.toNat) (k + 1) (fun x hx => hb x (by simp [hx])) (by rw [Nat.pow_succ]; omega)
    simpa [Nat.add_assoc, Nat.add_comm 1] using this
theorem or_join (A : Nat) (c : Int) (hA : A < 256 ^ 7) (hc : 0 ≤ c ∧ c ≤ 255) : bits .or .u64 (IntKind.u64.wrap ((A : Int) * 256)) c = ((A * 256 + c.toNat : Nat) : Int) := by
  obtain ⟨k, rfl⟩ := Int.eq_ofNat_of_zero_le hc.1
  have hA' : A < 72057594037927936 := hA
  have e1 : IntKind.u64.wrap ((A : Int) * 256) = ((A * 256 : Nat) : Int) := by rw [IntKind.wrap_u64]; omega
  rw [e1, bits_or_u64_nat _ _ (by omega) (by omega)]
  have := Nat.shiftLeft_add_eq_or_of_lt (i := 8) (b := k) (by omega) A
  rw [Nat.shiftLeft_eq] at this
  simp only [Int.toNat_natCast]
  exact congrArg (fun x : Nat => (x : Int)) this.symm
/-- the number that eight bytes are. -/
def unX (A : Nat) : Int := wrap64 (bits BinOp.xor IntKind.u64 (A : Int) 9223372036854775808)
theorem take_snoc' (bs : List Int) (i k : Nat) (h : i + k < bs.length) : (bs.drop i).take (k + 1) = (bs.drop i).take k ++ [bs.getD (i + k) 0] := by
  rw [take_snoc _ _ (by simp; omega)]
  simp [List.getD_eq_getElem?_getD]

set_option maxHeartbeats 1600000 in
set_option maxRecDepth 1000000 in
theorem number_in (p : Nat) (a : Option Addr) (cap : Nat) (bs : List Int) (i n q : Nat) (m : Int) (w : World) (hr : Rdr w p a cap bs i n q m) (hi : i + 8 ≤ bs.length) :
    Calls Try.prog 41 #[.pointer (some ⟨p, 0, none⟩)] w fun e w' => e = .returned (.tuple #[.int .i64 (unX (jb (((bs.drop i).take 8).map (tn m)))), .bool true]) ∧ Rdr w' p a cap bs (i + 8) n q m ∧ w.grownBy w' (some p) := by
  have HR := hide hr
  clear hr
  go_enter Try.func41, Try.ntmps41
  go_wp2
  go_loopw [4, 7] (fun x s wr => ∃ k : Nat, k ≤ 8 ∧ s = .int .i64 (k : Int) ∧ x = .int .u64 ((jb (((bs.drop i).take k).map (tn m)) : Nat) : Int) ∧ Rdr wr p a cap bs (i + k) n q m ∧ w.grownBy wr (some p)) (fun _ s _ => 8 - (intOf s).toNat)
  case atStart => exact ⟨0, by omega, rfl, by simp [jb], HR.out, grown_refl _ _⟩
  case round =>
    obtain ⟨k, hk, rfl, rfl, hrd, hg⟩ := hrel
    have HRd := hide hrd
    have HG := hide hg
    clear hrd hg
    by_cases hlt : k < 8
    · have HS := hide (take_snoc' bs i k (by omega))
      have hby := tn_bd m (bs.getD (i + k) 0) (HRd.out.byts.at (i + k)) HRd.out.md
      have hjb := jb_lt (((bs.drop i).take k).map (tn m)) (fun c hc => by
        obtain ⟨x, hx, rfl⟩ := List.mem_map.1 hc
        exact tn_bd m x (HRd.out.byts x (List.mem_of_mem_drop (List.mem_of_mem_take hx))) HRd.out.md)
      have hjl : (((bs.drop i).take k).map (tn m)).length ≤ 7 := by simp; omega
      have HJ : Hid (jb (((bs.drop i).take k).map (tn m)) < 256 ^ 7) := Nat.lt_of_lt_of_le hjb (Nat.pow_le_pow_right (by omega) hjl)
      have HSt : Hid (jb (((bs.drop i).take (k + 1)).map (tn m)) = jb (((bs.drop i).take k).map (tn m)) * 256 + (tn m (bs.getD (i + k) 0)).toNat) := by
        rw [HS.out, map_snoc, jb_snoc]
        rfl
      have HOr := hide (or_join _ (tn m (bs.getD (i + k) 0)) HJ.out hby)
      rw [← HSt.out] at HOr
      clear hjb hjl HJ HS
      go_wp2_with fail
      refine (next_in p a cap bs (i + k) n q m wr HRd.out (by omega)).mono ?_
      rintro e W1 ⟨rfl, hrd1, hg1⟩
      have HR1 := hide hrd1
      have HG1 := hide (grown_trans HG.out hg1)
      clear hrd1 hg1 HG
      generalize tn m (bs.getD (i + k) 0) = c at *
      generalize jb (((bs.drop i).take k).map (tn m)) = A at *
      go_wp2
      go_roundw
      case rel => exact ⟨k + 1, by omega, by go_num, by rw [← HOr.out], HR1.out, HG1.out⟩
      case measure => simp [intOf]; omega
    · have hk8 : k = 8 := by omega
      subst hk8
      generalize hA : jb (((bs.drop i).take 8).map (tn m)) = A at *
      have HA := hide hA
      clear hA
      go_wp2
      go_ret2
      exact ⟨by rw [HA.out]; rfl, HRd.out, HG.out⟩
end Go.Proofs.Ytegoeaofjnpehaa
