/- Plain mathematics of pages: numbers as bytes, the lowest first; bytes with their checksum behind them. -/
import Derived.Test.YtlmofgfkclfgeaaGreatBM
import Derived.Test.YtlmofgfkclfgeaaGreatChecked
import Derived.KernelRfl
import Derived.WalkKit
import Derived.Handy
import Derived.LoopTactic
import Derived.Laws.BitsAllLaws
namespace Go.Proofs.YtlmofgfkclfgeaaGreat
namespace Crc

/-- a number in k bytes, the lowest first. -/
def le : Nat → Nat → List Int
  | 0, _ => []
  | k + 1, n => ((n % 256 : Nat) : Int) :: le k (n / 256)
/-- the number that bytes are, the lowest first. -/
def leV : List Int → Nat
  | [] => 0
  | c :: t => c.toNat + 256 * leV t
def B8 (l : List Int) : Prop := ∀ c ∈ l, 0 ≤ c ∧ c ≤ 255
theorem B8.cons {c : Int} {t : List Int} (h : B8 (c :: t)) : (0 ≤ c ∧ c ≤ 255) ∧ B8 t := ⟨h c (by simp), fun d hd => h d (by simp [hd])⟩
theorem le_length (k n : Nat) : (le k n).length = k := by
  induction k generalizing n with
  | zero => rfl
  | succ k ih => simp [le, ih]
theorem le_b8 (k n : Nat) : B8 (le k n) := by
  induction k generalizing n with
  | zero => intro c hc; simp [le] at hc
  | succ k ih =>
    intro c hc
    simp only [le, List.mem_cons] at hc
    rcases hc with rfl | hc
    · omega
    · exact ih _ c hc
theorem le_zero (k : Nat) : le k 0 = List.replicate k 0 := by
  induction k with
  | zero => rfl
  | succ k ih => simp [le, ih, List.replicate_succ]
theorem leV_le (k n : Nat) (h : n < 256 ^ k) : leV (le k n) = n := by
  induction k generalizing n with
  | zero => simp at h; subst h; rfl
  | succ k ih =>
    have hn : n / 256 < 256 ^ k := by rw [Nat.pow_succ] at h; omega
    simp only [le, leV]
    rw [ih _ hn]; omega
theorem le_leV (l : List Int) (h : B8 l) : le l.length (leV l) = l := by
  induction l with
  | nil => rfl
  | cons c t ih =>
    obtain ⟨hc, ht⟩ := h.cons
    have e1 : (c.toNat + 256 * leV t) % 256 = c.toNat := by omega
    have e2 : (c.toNat + 256 * leV t) / 256 = leV t := by omega
    simp only [List.length_cons, le, leV]
    rw [e1, e2, ih ht]
    congr 1
    omega
theorem leV_lt (l : List Int) (h : B8 l) : leV l < 256 ^ l.length := by
  induction l with
  | nil => simp [leV]
  | cons c t ih =>
    obtain ⟨hc, ht⟩ := h.cons
    have := ih ht
    rw [leV, List.length_cons, Nat.pow_succ]
    omega
theorem le_inj (k a b : Nat) (ha : a < 256 ^ k) (hb : b < 256 ^ k) (h : le k a = le k b) : a = b := by
  have := congrArg leV h
  rwa [leV_le k a ha, leV_le k b hb] at this
theorem xor_add (c m : Nat) (hc : c < 256) : c ^^^ (256 * m) = c + 256 * m := by
  have h := Nat.two_pow_add_eq_or_of_lt (i := 8) (b := c) (by omega) m
  have e : (2 : Nat) ^ 8 = 256 := by decide
  rw [e] at h
  rw [Nat.add_comm, h, Nat.xor_comm]
  apply Nat.eq_of_testBit_eq; intro i
  simp only [Nat.testBit_xor, Nat.testBit_or]
  by_cases hi : i < 8
  · have : (256 * m).testBit i = false := by
      rw [← e, Nat.testBit_two_pow_mul]; simp; omega
    rw [this]; simp
  · have : c.testBit i = false := by
      apply Nat.testBit_lt_two_pow
      have : 2 ^ 8 ≤ 2 ^ i := Nat.pow_le_pow_right (by omega) (by omega)
      omega
    rw [this]; simp
theorem leV_num (l : List Int) (h : B8 l) : leV l = num l := by
  induction l with
  | nil => rfl
  | cons c t ih =>
    obtain ⟨hc, ht⟩ := h.cons
    rw [leV, num_cons, ih ht, xor_add _ _ (by omega)]
theorem stps_inj (k a b : Nat) (ha : a < 4294967296) (hb : b < 4294967296) (h : stps k a = stps k b) : a = b := by
  have e : stps k (a ^^^ b) = 0 := by rw [stps_xor, h, Nat.xor_self]
  exact (xor_zero_iff _ _).1 (stps_zero_of k _ (xor_lt32 a b ha hb) e)
theorem inv_iff (r v : Nat) : r ^^^ v = ones ↔ v = inv r := by
  rw [inv]
  constructor
  · intro h; rw [← h, Nat.xor_comm r v, Nat.xor_assoc, Nat.xor_self, Nat.xor_zero]
  · intro h; rw [h, Nat.xor_comm ones, xor_twice]
/-- the sum behind some bytes is right just if the register behind all is what it then always is. -/
theorem right_iff (l t : List Int) (ht : t.length = 4) (hl : B8 l) (h8 : B8 t) : leV t = more 0 l ↔ reg (inv 0) (l ++ t) = stps 32 ones := by
  have hr : reg (inv 0) l < 4294967296 := reg_lt _ _ (inv_lt _ (by omega)) hl
  have hv := leV_lt t h8
  rw [ht] at hv
  have e4 : (256 : Nat) ^ 4 = 4294967296 := by decide
  rw [e4] at hv
  rw [reg_append, reg_num, ht, ← leV_num t h8]
  have e8 : 8 * 4 = 32 := rfl
  rw [e8]
  have ho : ones < 4294967296 := by rw [ones]; omega
  have h0 : more 0 l = inv (reg (inv 0) l) := by rw [more]
  rw [h0, ← inv_iff]
  constructor
  · intro h; rw [h]
  · intro h; exact stps_inj 32 _ _ (xor_lt32 _ _ hr hv) ho h
/-- bytes with a right sum behind them, some bits of 32 in a row turned: the sum is right no more, unless none was turned. -/
theorem turned_right (P T : List Int) (F E : Nat) (hl : T.length = P.length) (hF : F ≤ 8 * P.length) (hE : E < 4294967296) (hn : num T = num P ^^^ 2 ^ F * E)
    (hP : reg (inv 0) P = stps 32 ones) : reg (inv 0) T = stps 32 ones ↔ E = 0 := by
  rw [← hP, reg_num, reg_num, hl, hn]
  have e : inv 0 ^^^ (num P ^^^ 2 ^ F * E) = (inv 0 ^^^ num P) ^^^ 2 ^ F * E := by rw [Nat.xor_assoc]
  rw [e, stps_xor]
  have e2 : 8 * P.length = F + (8 * P.length - F) := by omega
  have e3 : stps (8 * P.length) (2 ^ F * E) = stps (8 * P.length - F) E := by
    rw [e2, stps_add, stps_shift, ← e2]
  rw [e3]
  constructor
  · intro h
    have h2 : stps (8 * P.length - F) E = 0 := by
      have := congrArg (fun x => stps (8 * P.length) (inv 0 ^^^ num P) ^^^ x) h
      simp only [Nat.xor_self] at this
      rw [xor_twice] at this
      exact this
    exact stps_zero_of _ _ hE h2
  · intro h; rw [h, stps_zero, Nat.xor_zero]
end Crc
end Go.Proofs.YtlmofgfkclfgeaaGreat
/- Plain mathematics of pages and states: their bytes, and which bytes are one. -/
namespace Go.Proofs.YtlmofgfkclfgeaaGreat
namespace Pg
open Crc

/-- bytes, filled up with noughts ahead of a sum. -/
def fill (size : Nat) (l : List Int) : List Int := l ++ List.replicate (size - 4 - l.length) 0
/-- with the sum. -/
def sl (size : Nat) (l : List Int) : List Int := fill size l ++ le 4 (more 0 (fill size l))
/-- the sum at the end is right, and the length. -/
def Rt (size : Nat) (zs : List Int) : Prop := zs.length = size ∧ leV (zs.drop (size - 4)) = more 0 (zs.take (size - 4))
instance (size : Nat) (zs : List Int) : Decidable (Rt size zs) := by unfold Rt; infer_instance

theorem fill_length (size : Nat) (l : List Int) (h : l.length + 4 ≤ size) : (fill size l).length = size - 4 := by
  simp [fill]; omega
theorem sl_length (size : Nat) (l : List Int) (h : l.length + 4 ≤ size) : (sl size l).length = size := by
  rw [sl, List.length_append, fill_length size l h, le_length]; omega
theorem b8_app {a b : List Int} (ha : B8 a) (hb : B8 b) : B8 (a ++ b) := fun c hc => (List.mem_append.1 hc).elim (ha c) (hb c)
theorem b8_rep (n : Nat) : B8 (List.replicate n 0) := by
  intro c hc
  have := List.eq_of_mem_replicate hc
  omega
theorem b8_take {a : List Int} (h : B8 a) (k : Nat) : B8 (a.take k) := fun c hc => h c (List.mem_of_mem_take hc)
theorem b8_drop {a : List Int} (h : B8 a) (k : Nat) : B8 (a.drop k) := fun c hc => h c (List.mem_of_mem_drop hc)
theorem fill_b8 (size : Nat) (l : List Int) (h : B8 l) : B8 (fill size l) := b8_app h (b8_rep _)
theorem sl_b8 (size : Nat) (l : List Int) (h : B8 l) : B8 (sl size l) := b8_app (fill_b8 size l h) (le_b8 _ _)
theorem more_lt4 (l : List Int) (h : B8 l) : more 0 l < 256 ^ 4 := by
  have := more_lt 0 l (by omega) h
  have e4 : (256 : Nat) ^ 4 = 4294967296 := by decide
  rw [e4]; exact this
theorem sl_right (size : Nat) (l : List Int) (h : l.length + 4 ≤ size) (h8 : B8 l) : Rt size (sl size l) := by
  refine ⟨sl_length size l h, ?_⟩
  have e := fill_length size l h
  rw [sl, List.drop_left' e, List.take_left' e, leV_le 4 _ (more_lt4 _ (fill_b8 size l h8))]
/-- bytes with a right sum are sealed. -/
theorem right_is (size : Nat) (zs : List Int) (h8 : B8 zs) (hs : 4 ≤ size) (h : Rt size zs) : zs = zs.take (size - 4) ++ le 4 (more 0 (zs.take (size - 4))) := by
  obtain ⟨h1, h2⟩ := h
  have e : (zs.drop (size - 4)).length = 4 := by rw [List.length_drop]; omega
  have e2 := le_leV (zs.drop (size - 4)) (b8_drop h8 _)
  rw [e, h2] at e2
  rw [e2, List.take_append_drop]
/-- in the register's words. -/
theorem right_reg (size : Nat) (zs : List Int) (h8 : B8 zs) (hs : 4 ≤ size) (hl : zs.length = size) : Rt size zs ↔ reg (inv 0) zs = stps 32 ones := by
  have e : (zs.drop (size - 4)).length = 4 := by rw [List.length_drop]; omega
  have h := right_iff (zs.take (size - 4)) (zs.drop (size - 4)) e (b8_take h8 _) (b8_drop h8 _)
  rw [List.take_append_drop] at h
  rw [← h, Rt]
  simp [hl]
/-- what is sealed, with some bits of 32 in a row turned, is right just if none was. -/
theorem turned_rt (size : Nat) (P T : List Int) (F E : Nat) (hs : 4 ≤ size) (hP8 : B8 P) (hT8 : B8 T) (hP : Rt size P) (hl : T.length = P.length) (hF : F ≤ 8 * P.length) (hE : E < 4294967296) (hn : num T = num P ^^^ 2 ^ F * E) :
    Rt size T ↔ E = 0 := by
  have hp := (right_reg size P hP8 hs hP.1).1 hP
  rw [right_reg size T hT8 hs (hl.trans hP.1)]
  exact turned_right P T F E hl hF hE hn hp
theorem num_inj (a b : List Int) (hl : a.length = b.length) (ha : B8 a) (hb : B8 b) (h : num a = num b) : a = b := by
  rw [← leV_num a ha, ← leV_num b hb] at h
  have h1 := le_leV a ha
  have h2 := le_leV b hb
  rw [hl, h, h2] at h1
  exact h1.symm

/-- the bytes of a page ahead of its sum. -/
def pb (kind number : Nat) (pl : List Int) : List Int := [67, 80] ++ (le 1 kind ++ (le 1 0 ++ (le 4 number ++ (le 2 pl.length ++ (le 2 0 ++ (pl ++ List.replicate (1008 - pl.length) 0))))))
/-- a page's head and payload, as they are laid down. -/
def ph (kind number : Nat) (pl : List Int) : List Int := ([67, 80] ++ le 1 kind ++ le 1 0 ++ le 4 number ++ le 2 pl.length ++ le 2 0) ++ pl
/-- a page. -/
def pg (kind number : Nat) (pl : List Int) : List Int := sl 1024 (ph kind number pl)
theorem ph_length (kind number : Nat) (pl : List Int) : (ph kind number pl).length = 12 + pl.length := by
  simp [ph, le_length]; omega
theorem fill_ph (kind number : Nat) (pl : List Int) : fill 1024 (ph kind number pl) = pb kind number pl := by
  have e : 1024 - 4 - (ph kind number pl).length = 1008 - pl.length := by rw [ph_length]; omega
  rw [fill, e]
  simp [ph, pb]
theorem pg_eq (kind number : Nat) (pl : List Int) : pg kind number pl = pb kind number pl ++ le 4 (more 0 (pb kind number pl)) := by rw [pg, sl, fill_ph]
theorem cp8 : B8 [67, 80] := by intro c hc; simp at hc; omega
theorem ph_b8 (kind number : Nat) (pl : List Int) (h : B8 pl) : B8 (ph kind number pl) :=
  b8_app (b8_app (b8_app (b8_app (b8_app (b8_app cp8 (le_b8 _ _)) (le_b8 _ _)) (le_b8 _ _)) (le_b8 _ _)) (le_b8 _ _)) h
theorem pb_b8 (kind number : Nat) (pl : List Int) (h : B8 pl) : B8 (pb kind number pl) := by rw [← fill_ph]; exact fill_b8 _ _ (ph_b8 _ _ _ h)
theorem pg_b8 (kind number : Nat) (pl : List Int) (h : B8 pl) : B8 (pg kind number pl) := sl_b8 _ _ (ph_b8 _ _ _ h)
theorem pb_length (kind number : Nat) (pl : List Int) (h : pl.length ≤ 1008) : (pb kind number pl).length = 1020 := by
  rw [← fill_ph, fill_length _ _ (by rw [ph_length]; omega)]
theorem pg_length (kind number : Nat) (pl : List Int) (h : pl.length ≤ 1008) : (pg kind number pl).length = 1024 := sl_length _ _ (by rw [ph_length]; omega)
theorem pg_right (kind number : Nat) (pl : List Int) (h : pl.length ≤ 1008) (h8 : B8 pl) : Rt 1024 (pg kind number pl) := sl_right _ _ (by rw [ph_length]; omega) (ph_b8 _ _ _ h8)
theorem pg_take (kind number : Nat) (pl : List Int) (h : pl.length ≤ 1008) : (pg kind number pl).take 1020 = pb kind number pl := by
  rw [pg_eq]; exact List.take_left' (pb_length kind number pl h)

/-- bytes ahead of a sum, cut as a page is. -/
theorem cut6 (B : List Int) (h : B.length = 1020) : ∃ x1 x2 x3 x4 x5 x6 R : List Int, B = x1 ++ (x2 ++ (x3 ++ (x4 ++ (x5 ++ (x6 ++ R))))) ∧ x1.length = 2 ∧ x2.length = 1 ∧ x3.length = 1 ∧ x4.length = 4 ∧ x5.length = 2 ∧ x6.length = 2 ∧ R.length = 1008 := by
  refine ⟨B.take 2, (B.drop 2).take 1, (B.drop 3).take 1, (B.drop 4).take 4, (B.drop 8).take 2, (B.drop 10).take 2, B.drop 12, ?_, by simp [h], by simp [h], by simp [h], by simp [h], by simp [h], by simp [h], by simp [h]⟩
  have e6 : (B.drop 10).take 2 ++ B.drop 12 = B.drop 10 := by have := List.take_append_drop 2 (B.drop 10); rwa [List.drop_drop] at this
  have e5 : (B.drop 8).take 2 ++ B.drop 10 = B.drop 8 := by have := List.take_append_drop 2 (B.drop 8); rwa [List.drop_drop] at this
  have e4 : (B.drop 4).take 4 ++ B.drop 8 = B.drop 4 := by have := List.take_append_drop 4 (B.drop 4); rwa [List.drop_drop] at this
  have e3 : (B.drop 3).take 1 ++ B.drop 4 = B.drop 3 := by have := List.take_append_drop 1 (B.drop 3); rwa [List.drop_drop] at this
  have e2 : (B.drop 2).take 1 ++ B.drop 3 = B.drop 2 := by have := List.take_append_drop 1 (B.drop 2); rwa [List.drop_drop] at this
  rw [e6, e5, e4, e3, e2, List.take_append_drop]
theorem peel6 (x1 x2 x3 x4 x5 x6 R y1 y2 y3 y4 y5 y6 S : List Int) (h : x1 ++ (x2 ++ (x3 ++ (x4 ++ (x5 ++ (x6 ++ R))))) = y1 ++ (y2 ++ (y3 ++ (y4 ++ (y5 ++ (y6 ++ S))))))
    (h1 : x1.length = y1.length) (h2 : x2.length = y2.length) (h3 : x3.length = y3.length) (h4 : x4.length = y4.length) (h5 : x5.length = y5.length) (h6 : x6.length = y6.length) :
    x1 = y1 ∧ x2 = y2 ∧ x3 = y3 ∧ x4 = y4 ∧ x5 = y5 ∧ x6 = y6 ∧ R = S := by
  obtain ⟨e1, h⟩ := List.append_inj h h1
  obtain ⟨e2, h⟩ := List.append_inj h h2
  obtain ⟨e3, h⟩ := List.append_inj h h3
  obtain ⟨e4, h⟩ := List.append_inj h h4
  obtain ⟨e5, h⟩ := List.append_inj h h5
  obtain ⟨e6, h⟩ := List.append_inj h h6
  exact ⟨e1, e2, e3, e4, e5, e6, h⟩

/-- what a page of that number has, by the document's own words. -/
def opn (number : Nat) (zs : List Int) : Option (Nat × List Int) :=
  if zs.length = 1024 ∧ leV ((zs.drop 8).take 2) ≤ 1008 ∧ 1 ≤ leV ((zs.drop 2).take 1) ∧ leV ((zs.drop 2).take 1) ≤ 4 ∧ zs = pg (leV ((zs.drop 2).take 1)) number ((zs.drop 12).take (leV ((zs.drop 8).take 2))) then
    some (leV ((zs.drop 2).take 1), (zs.drop 12).take (leV ((zs.drop 8).take 2))) else none
theorem le1_0 : le 1 0 = [0] := rfl
theorem le2_0 : le 2 0 = [0, 0] := rfl
theorem pg_kind (kind number : Nat) (pl : List Int) (h : kind < 256) : leV (((pg kind number pl).drop 2).take 1) = kind := by
  have e : ((pg kind number pl).drop 2).take 1 = le 1 kind := by
    rw [pg_eq, pb, List.append_assoc, List.drop_left' (by rfl), List.append_assoc]
    exact List.take_left' (le_length _ _)
  rw [e]; exact leV_le 1 kind (by omega)
theorem pg_len (kind number : Nat) (pl : List Int) (h : pl.length ≤ 1008) : leV (((pg kind number pl).drop 8).take 2) = pl.length := by
  have e : ((pg kind number pl).drop 8).take 2 = le 2 pl.length := by
    have e8 : pg kind number pl = ([67, 80] ++ (le 1 kind ++ (le 1 0 ++ le 4 number))) ++ (le 2 pl.length ++ ((le 2 0 ++ (pl ++ List.replicate (1008 - pl.length) 0)) ++ le 4 (more 0 (pb kind number pl)))) := by
      rw [pg_eq]; conv => lhs; arg 1; rw [pb]
      simp
    rw [e8, List.drop_left' (by simp [le_length])]
    exact List.take_left' (le_length _ _)
  rw [e]; exact leV_le 2 _ (by have : (256 : Nat) ^ 2 = 65536 := by decide
                               omega)
theorem pg_payload (kind number : Nat) (pl : List Int) : ((pg kind number pl).drop 12).take pl.length = pl := by
  have e8 : pg kind number pl = ([67, 80] ++ (le 1 kind ++ (le 1 0 ++ (le 4 number ++ (le 2 pl.length ++ le 2 0))))) ++ (pl ++ (List.replicate (1008 - pl.length) 0 ++ le 4 (more 0 (pb kind number pl)))) := by
    rw [pg_eq]; conv => lhs; arg 1; rw [pb]
    simp
  rw [e8, List.drop_left' (by simp [le_length])]
  exact List.take_left' rfl
theorem opn_pg (kind number : Nat) (pl : List Int) (h1 : 1 ≤ kind) (h4 : kind ≤ 4) (hl : pl.length ≤ 1008) : opn number (pg kind number pl) = some (kind, pl) := by
  rw [opn, pg_kind kind number pl (by omega), pg_len kind number pl hl, pg_payload, if_pos ⟨pg_length _ _ _ hl, hl, h1, h4, rfl⟩]
theorem opn_some {number kind : Nat} {zs pl : List Int} (h : opn number zs = some (kind, pl)) : 1 ≤ kind ∧ kind ≤ 4 ∧ pl.length ≤ 1008 ∧ zs = pg kind number pl := by
  rw [opn] at h
  split at h
  · rename_i hc
    obtain ⟨h0, h1, h2, h3, h5⟩ := hc
    cases h
    exact ⟨h2, h3, by rw [List.length_take, List.length_drop]; omega, h5⟩
  · cases h
theorem opn_none {number : Nat} {zs : List Int} (h : ∀ kind pl, 1 ≤ kind → kind ≤ 4 → pl.length ≤ 1008 → zs ≠ pg kind number pl) : opn number zs = none := by
  cases e : opn number zs with
  | none => rfl
  | some x => obtain ⟨k, pl⟩ := x; obtain ⟨h1, h2, h3, h4⟩ := opn_some e; exact absurd h4 (h k pl h1 h2 h3)
/-- bytes without a right sum are no page. -/
theorem opn_wrong {number : Nat} {zs : List Int} (h8 : B8 zs) (h : ¬ Rt 1024 zs) : opn number zs = none := by
  apply opn_none
  intro kind pl h1 h2 h3 e
  apply h
  have hp : B8 pl := by
    intro c hc
    have e2 := pg_payload kind number pl
    rw [← e] at e2
    exact h8 c (List.mem_of_mem_drop (List.mem_of_mem_take (by rw [e2]; exact hc)))
  rw [e]
  exact pg_right kind number pl h3 hp
/-- bytes with a right sum, cut as a page is. -/
theorem opn_cut {number : Nat} {zs x1 x2 x3 x4 x5 x6 R : List Int} (h8 : B8 zs) (hr : Rt 1024 zs) (hc : zs.take 1020 = x1 ++ (x2 ++ (x3 ++ (x4 ++ (x5 ++ (x6 ++ R))))))
    (l1 : x1.length = 2) (l2 : x2.length = 1) (l3 : x3.length = 1) (l4 : x4.length = 4) (l5 : x5.length = 2) (l6 : x6.length = 2) (lR : R.length = 1008) (hn : number < 4294967296) :
    (x1 = [67, 80] → 1 ≤ leV x2 → leV x2 ≤ 4 → x3 = [0] → leV x4 = number → x6 = [0, 0] → leV x5 ≤ 1008 → R.drop (leV x5) = List.replicate (1008 - leV x5) 0 → opn number zs = some (leV x2, R.take (leV x5))) ∧
    (¬ (x1 = [67, 80] ∧ 1 ≤ leV x2 ∧ leV x2 ≤ 4 ∧ x3 = [0] ∧ leV x4 = number ∧ x6 = [0, 0] ∧ leV x5 ≤ 1008 ∧ R.drop (leV x5) = List.replicate (1008 - leV x5) 0) → opn number zs = none) := by
  have b := b8_take h8 1020
  rw [hc] at b
  have bx : ∀ l : List Int, (∀ c ∈ l, c ∈ x1 ++ (x2 ++ (x3 ++ (x4 ++ (x5 ++ (x6 ++ R)))))) → B8 l := fun l hl c hc => b c (hl c hc)
  have b2 : B8 x2 := bx x2 (fun c hc => by simp [hc])
  have b4 : B8 x4 := bx x4 (fun c hc => by simp [hc])
  have b5 : B8 x5 := bx x5 (fun c hc => by simp [hc])
  constructor
  · intro e1 k1 k4 e3 e4 e6 e5 eR
    have hz := right_is 1024 zs h8 (by omega) hr
    have hlen : (R.take (leV x5)).length = leV x5 := by rw [List.length_take, lR]; omega
    have hb : zs.take 1020 = pb (leV x2) number (R.take (leV x5)) := by
      have i2 := le_leV x2 b2
      have i4 := le_leV x4 b4
      have i5 := le_leV x5 b5
      rw [l2] at i2
      rw [l4, e4] at i4
      rw [l5] at i5
      rw [hc, pb, hlen, i2, i4, i5, le1_0, le2_0, e1, e3, e6, ← eR, List.take_append_drop]
    have hz2 : zs = pg (leV x2) number (R.take (leV x5)) := by
      rw [pg_eq, ← hb]; exact hz
    rw [hz2]
    exact opn_pg _ _ _ k1 k4 (by omega)
  · intro hno
    apply opn_none
    intro kind pl h1 h4 hl e
    apply hno
    have hb : zs.take 1020 = pb kind number pl := by rw [e]; exact pg_take kind number pl hl
    rw [hc, pb] at hb
    obtain ⟨e1, e2, e3, e4, e5, e6, eR⟩ := peel6 _ _ _ _ _ _ _ _ _ _ _ _ _ _ hb (by rw [l1]; rfl) (by rw [l2, le_length]) (by rw [l3, le_length]) (by rw [l4, le_length]) (by rw [l5, le_length]) (by rw [l6, le_length])
    have v2 : leV x2 = kind := by rw [e2]; exact leV_le 1 kind (by omega)
    have v4 : leV x4 = number := by rw [e4]; exact leV_le 4 number (by have : (256 : Nat) ^ 4 = 4294967296 := by decide
                                                                       omega)
    have v5 : leV x5 = pl.length := by rw [e5]; exact leV_le 2 _ (by have : (256 : Nat) ^ 2 = 65536 := by decide
                                                                     omega)
    refine ⟨e1, by omega, by omega, e3, v4, e6, by omega, ?_⟩
    rw [v5, eR]
    exact List.drop_left' rfl
end Pg
end Go.Proofs.YtlmofgfkclfgeaaGreat
/- Contracts of two inner functions of the checksum: one shift of the register, and the table of what half a byte comes to. No condition but that the register is a number of 44 bits. -/
namespace Go.Proofs.YtlmofgfkclfgeaaGreat
open Go.RowKit
set_option linter.unusedVariables false

theorem and1 (n : Nat) (hn : n < 4294967296) : bits .and .u32 (n : Int) 1 = ((n % 2 : Nat) : Int) := by
  have h := u32_and_nat n 1 hn (by omega)
  rw [Nat.and_one_is_mod] at h
  exact h
theorem and15 (n : Nat) (hn : n < 4294967296) : bits .and .u32 (n : Int) 15 = ((n % 16 : Nat) : Int) := by
  have h := u32_and_nat n 15 hn (by omega)
  have e := Nat.and_two_pow_sub_one_eq_mod n 4
  rw [show (2 : Nat) ^ 4 - 1 = 15 from rfl, show (2 : Nat) ^ 4 = 16 from rfl] at e
  rw [e] at h
  exact h
theorem stp_odd (n : Nat) (hn : n < 4294967296) (h : (bits BinOp.and IntKind.u32 (↑n) 1 == 1) = true) : bits BinOp.xor IntKind.u32 (↑n / 2) 2197175160 = ((Crc.stp n : Nat) : Int) := by
  rw [and1 n hn] at h
  have h1 : n % 2 = 1 := by simp at h; omega
  have e : ((n : Int) / 2) = ((n / 2 : Nat) : Int) := by omega
  have h2 := u32_xor_nat (n / 2) 2197175160 (by omega) (by omega)
  rw [e, Crc.stp, if_pos h1]
  exact h2
theorem stp_even (n : Nat) (hn : n < 4294967296) (h : (bits BinOp.and IntKind.u32 (↑n) 1 == 1) = false) : ((n : Int) / 2) = ((Crc.stp n : Nat) : Int) := by
  rw [and1 n hn] at h
  have h1 : ¬ n % 2 = 1 := by simp at h; omega
  rw [Crc.stp, if_neg h1]; omega
theorem ret_int {k : IntKind} {a b : Int} (h : a = b) : Ending.returned (.int k a) = .returned (.int k b) := by rw [h]

set_option maxHeartbeats 400000 in
theorem shifted_any (n : Nat) (hn : n < 4294967296) (w : World) :
    Calls Tryz.prog 107 #[.int .u32 (n : Int)] w fun e w' => e = .returned (.int .u32 ((Crc.stp n : Nat) : Int)) ∧ w' = w := by
  go_enter Tryz.func107, Tryz.ntmps107
  go_wp2
  · go_ret
    exact ⟨ret_int (stp_odd n hn ‹_›), rfl⟩
  · go_ret
    exact ⟨ret_int (stp_even n hn ‹_›), rfl⟩

/-- what half a byte comes to, the first k of them. -/
def tab (k : Nat) : Array Value := ((List.range 16).map fun j => if j < k then Value.int .u32 ((Crc.stps 4 j : Nat) : Int) else .int .u32 0).toArray
theorem tab_zero : tab 0 = #[.int .u32 0, .int .u32 0, .int .u32 0, .int .u32 0, .int .u32 0, .int .u32 0, .int .u32 0, .int .u32 0, .int .u32 0, .int .u32 0, .int .u32 0, .int .u32 0, .int .u32 0, .int .u32 0, .int .u32 0, .int .u32 0] := by kernel_rfl
theorem tab_full : tab 16 = #[.int .u32 0, .int .u32 274646895, .int .u32 549293790, .int .u32 820201905, .int .u32 1098587580, .int .u32 1361435347, .int .u32 1640403810, .int .u32 1905808397, .int .u32 2197175160, .int .u32 2460548119, .int .u32 2722870694, .int .u32 2987750089, .int .u32 3280807620, .int .u32 3553878443, .int .u32 3811616794, .int .u32 4084100981] := by kernel_rfl
theorem tab_size (k : Nat) : (tab k).size = 16 := by simp [tab]
theorem tab_at (k j : Nat) (h : j < 16) : (tab k)[j]? = some (if j < k then Value.int .u32 ((Crc.stps 4 j : Nat) : Int) else .int .u32 0) := by
  simp [tab, h]
theorem tab_next (k : Nat) (h : k < 16) : (tab k).setIfInBounds k (.int .u32 ((Crc.stps 4 k : Nat) : Int)) = tab (k + 1) := by
  apply Array.ext_getElem?
  intro j
  rw [Array.getElem?_setIfInBounds]
  by_cases hj : j < 16
  · rw [tab_at _ j hj, tab_at _ j hj, tab_size]
    by_cases e : k = j
    · subst e; simp [h]
    · rw [if_neg e]
      by_cases l : j < k
      · rw [if_pos l, if_pos (by omega)]
      · rw [if_neg l, if_neg (by omega)]
  · rw [Array.getElem?_eq_none (by rw [tab_size]; omega), Array.getElem?_eq_none (by rw [tab_size]; omega), if_neg (by omega)]

set_option maxHeartbeats 400000 in
theorem half_any (w : World) :
    Calls Tryz.prog 106 #[] w fun e w' => e = .returned (.agg (tab 16)) ∧ Below w.heap.size w w' := by
  go_enter Tryz.func106, Tryz.ntmps106
  go_wp2
  go_loopw [4] (fun i wr => ∃ k : Nat, k ≤ 16 ∧ i = .int .i64 k ∧ wr = (w.alloc (.cells (tab 0) 254)).alloc (.cells (tab k) 254)) (fun i _ => 16 - (intOf i).toNat)
  case atStart => exact ⟨0, Nat.zero_le _, rfl, by rw [tab_zero]⟩
  case round =>
    obtain ⟨k, hk, rfl, rfl⟩ := hrel
    by_cases hlt : k < 16
    · have h1 : (tab k)[k]? = some (.int .u32 0) := by rw [tab_at k k hlt, if_neg (by omega)]
      have h2 := tab_size k
      have hd : decide ((k : Int) < 16) = true := by simp; omega
      go_wp2
      go_loop [3, 9] (fun r j => ∃ m : Nat, m ≤ 4 ∧ j = .int .i64 m ∧ r = .int .u32 ((Crc.stps m k : Nat) : Int)) (fun _ j => 4 - (intOf j).toNat)
      case atStart => exact ⟨0, Nat.zero_le _, rfl, rfl⟩
      case round =>
        obtain ⟨m, hm, rfl, rfl⟩ := hrel
        by_cases hml : m < 4
        · have hs := Crc.stps_lt m k (by omega)
          go_wp2_with (go_at_call 107; refine (shifted_any _ hs _).mono ?_; rintro e w' ⟨rfl, rfl⟩)
          go_round
          case rel => exact ⟨m + 1, by omega, by go_num, by rw [Crc.stps_succ]⟩
          case measure => simp [intOf]; omega
        · obtain rfl : m = 4 := by omega
          go_wp2
          go_roundw
          case rel => exact ⟨k + 1, by omega, by go_num, by rw [tab_next k hlt]⟩
          case measure => simp [intOf]; omega
    · obtain rfl : k = 16 := by omega
      rw [tab_full, tab_zero]
      go_wp2
      exact bodyPost_ret (v := .agg #[.int .u32 0, .int .u32 274646895, .int .u32 549293790, .int .u32 820201905, .int .u32 1098587580, .int .u32 1361435347, .int .u32 1640403810, .int .u32 1905808397, .int .u32 2197175160, .int .u32 2460548119, .int .u32 2722870694, .int .u32 2987750089, .int .u32 3280807620, .int .u32 3553878443, .int .u32 3811616794, .int .u32 4084100981]) (by simp [results, Tryz.results106, go_sem]) rfl ⟨by rw [tab_full], ((Below.refl _ _).alloc (Nat.le_refl _) _).alloc (by simp) _⟩
end Go.Proofs.YtlmofgfkclfgeaaGreat
