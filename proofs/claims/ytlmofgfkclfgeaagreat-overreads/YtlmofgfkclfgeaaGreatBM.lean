/- The pages at hand, in memory: a map beside the ring. -/
import Derived.Test.YtlmofgfkclfgeaaGreatPC
namespace Go.Proofs.YtlmofgfkclfgeaaGreat
open Go.RowKit Go.Maps
set_option linter.unusedVariables false

/-- a page at hand. -/
structure Pge where
  n : Nat
  k : Nat
  pl : List Int
def Sh.pg (s : Sh) : Pge := ⟨s.n, s.k, s.pl⟩
/-- all but the page of that number. -/
def wo (A : List Pge) (n : Nat) : List Pge := A.filter fun x => x.n != n
/-- how a pointer to a sheet reads, as an element of a map. -/
def ptrElem : Value → Option (DataW Unit × List MemPlace)
  | .pointer (some ⟨b, 0, none⟩) => some (.lit (.int .i64 (b : Int)), [])
  | .pointer none => some (.lit (.int .i64 (-1)), [])
  | _ => none
theorem ptrElem_inv {v : Value} {b : Nat} {ps : List MemPlace} (h : ptrElem v = some (.lit (.int .i64 (b : Int)), ps)) : v = .pointer (some ⟨b, 0, none⟩) := by
  unfold ptrElem at h
  split at h
  · rename_i b'
    simp at h
    obtain ⟨h, -⟩ := h
    have : b' = b := by omega
    rw [this]
  · have h := congrArg (fun x => x.map (·.1)) h
    simp at h
    try omega
  · cases h
theorem ptrElem_none {v : Value} {ps : List MemPlace} (h : ptrElem v = some (.lit (.int .i64 (-1)), ps)) : v = .pointer none := by
  unfold ptrElem at h
  split at h
  · have h := congrArg (fun x => x.map (·.1)) h
    simp at h
    try omega
  · rfl
  · cases h
/-- the map tells of each number its sheet. -/
structure Tll (D : DataW Unit) (L : List Sh) : Prop where
  has : ∀ n : Nat, n < 4294967296 → Maps.has D (.int .u32 (n : Int)) = decide (n ∈ L.map Sh.n)
  pl : ∀ s ∈ L, D.atKey (.int .u32 (s.n : Int)) (.lit (.int .i64 (-1))) = .lit (.int .i64 (s.b : Int))
  size : Maps.size D = L.length
def MapTo (w : World) (m : Nat) (L : List Sh) : Prop := ∃ D : DataW Unit, w.ownsMap Tryz.prog 23 ptrElem m L.length D ∧ Tll D L
theorem own_tight {P : Program} {k : TypeId} {R : Value → Option (DataW Unit × List MemPlace)} {w : World} {b n : Nat} {D : DataW Unit} (h : w.ownsMap P k R b n D) : w.ownsMap P k R b (Maps.size D) D := by
  obtain ⟨es, clock, hb, F, hs, hD⟩ := h
  refine ⟨es, clock, hb, F, ?_, hD⟩
  rw [hD]
  simp [Maps.size, length_sorted]
theorem MapTo.kept {w w' : World} {m : Nat} {L : List Sh} (h : MapTo w m L) (hb : w'.heap[m]? = w.heap[m]?) : MapTo w' m L := by
  obtain ⟨D, ⟨es, clock, h1, h2⟩, ht⟩ := h
  exact ⟨D, ⟨es, clock, hb.trans h1, h2⟩, ht⟩
theorem MapTo.perm {w : World} {m : Nat} {L L' : List Sh} (h : MapTo w m L) (hp : L'.Perm L) : MapTo w m L' := by
  obtain ⟨D, h1, h2⟩ := h
  refine ⟨D, by rw [hp.length_eq]; exact h1, ⟨fun n hn => ?_, fun s hs => h2.pl s (hp.mem_iff.1 hs), by rw [hp.length_eq]; exact h2.size⟩⟩
  rw [h2.has n hn]
  congr 1
  exact propext (hp.map Sh.n).mem_iff.symm
theorem MapTo.ismap {w : World} {m : Nat} {L : List Sh} (h : MapTo w m L) : ∃ es clock, w.heap[m]? = some (.map es clock) := by
  obtain ⟨D, ⟨es, clock, h1, h2⟩, ht⟩ := h
  exact ⟨es, clock, h1⟩
theorem zeroS : ∀ w, (zeroValue 101).run Tryz.prog w = .ok (.pointer none) w := (zero_of_info (P := Tryz.prog) (t := 101) (v := .pointer none) (n := 1) (by kernel_rfl)).1
theorem law32 : Keyed Tryz.prog 23 := int_keyed Tryz.underlying23
theorem key32 {n : Nat} (h : n < 4294967296) : keyOf Tryz.prog 23 (.int .u32 (n : Int)) = some (.int .u32 (n : Int)) := keyOf_int_mk Tryz.underlying23 (WalkArith.wf_u32 (by omega))
theorem MapTo.there {w : World} {m : Nat} {L : List Sh} (h : MapTo w m L) {s : Sh} (hs : s ∈ L) (hn : s.n < 4294967296) : (Instr.lookup 100 (.map (some m)) (.int .u32 (s.n : Int)) true).run Tryz.prog w = .ok (.tuple #[.pointer (some ⟨s.b, 0, none⟩), .bool true]) w := by
  obtain ⟨D, h1, h2⟩ := h
  obtain ⟨v, ps, hrun, hv⟩ := h1.look_ok law32 Tryz.underlying100 (zeroS w) (zd := .lit (.int .i64 (-1))) (zp := []) rfl (key32 hn)
  rw [h2.pl s hs] at hv
  rw [hrun, ptrElem_inv hv, h2.has s.n hn, decide_eq_true (List.mem_map.2 ⟨s, hs, rfl⟩)]
theorem MapTo.not {w : World} {m : Nat} {L : List Sh} (h : MapTo w m L) {n : Nat} (hs : n ∉ L.map Sh.n) (hn : n < 4294967296) : (Instr.lookup 100 (.map (some m)) (.int .u32 (n : Int)) true).run Tryz.prog w = .ok (.tuple #[.pointer none, .bool false]) w := by
  obtain ⟨D, h1, h2⟩ := h
  obtain ⟨v, ps, hrun, hv⟩ := h1.look_ok law32 Tryz.underlying100 (zeroS w) (zd := .lit (.int .i64 (-1))) (zp := []) rfl (key32 hn)
  have hh := h2.has n hn
  rw [decide_eq_false hs] at hh
  rw [atKey_of_not_has hh] at hv
  rw [hrun, ptrElem_none hv, hh]
theorem MapTo.len {w : World} {m : Nat} {L : List Sh} (h : MapTo w m L) (ty : TypeId) : (Builtin.len_ #[100] ty #[.map (some m)]).run Tryz.prog w = .ok (.int .i64 (L.length : Int)) w := by
  obtain ⟨D, h1, h2⟩ := h
  rw [h1.len Tryz.underlying100 ty, h2.size]
theorem MapTo.del {w : World} {m : Nat} {u v : List Sh} {s : Sh} (h : MapTo w m (u ++ s :: v)) (hnd : ((u ++ s :: v).map Sh.n).Nodup) (hn : s.n < 4294967296) (hr : ∀ t ∈ u ++ s :: v, t.n < 4294967296) (ty : TypeId) :
    ∃ w', (Builtin.delete_ #[100, 23] ty #[.map (some m), .int .u32 (s.n : Int)]).run Tryz.prog w = .ok (.tuple #[]) w' ∧ MapTo w' m (u ++ v) ∧ Mv (· = m) w w' := by
  obtain ⟨D, h1, h2⟩ := h
  obtain ⟨w', hrun, hown, hturn⟩ := h1.drop law32 Tryz.underlying100 (key32 hn) ty
  have hg := hturn.grown
  have hns : s.n ∉ (u ++ v).map Sh.n := by
    rw [List.map_append, List.map_cons] at hnd
    rw [List.map_append]
    have := (List.perm_middle.nodup_iff).1 hnd
    exact (List.nodup_cons.1 this).1
  have hhs : Maps.has D (.int .u32 (s.n : Int)) = true := by rw [h2.has s.n hn]; simp
  have hsz : Maps.size (D.del (.int .u32 (s.n : Int))) = (u ++ v).length := by
    have := size_del (k := .int .u32 (s.n : Int)) (h1.tidy law32)
    rw [hhs, h2.size] at this
    simp at this ⊢
    omega
  refine ⟨w', hrun, ⟨D.del (.int .u32 (s.n : Int)), ?_, ⟨fun n hn' => ?_, fun t ht => ?_, hsz⟩⟩, ⟨hg.os, hg.tape, hg.output, hg.size, fun k hk hne => hg.block k hk (fun e => hne (by cases e; rfl))⟩⟩
  · have := own_tight hown
    rwa [hsz] at this
  · by_cases e : n = s.n
    · subst e
      rw [has_del_same, decide_eq_false hns]
    · have hne : Lit.int .u32 (n : Int) ≠ Lit.int .u32 (s.n : Int) := by intro h; injection h with _ h; omega
      rw [has_del_other hne, h2.has n hn']
      rw [decide_eq_decide]
      simp [e]
  · have hts : t ∈ u ++ s :: v := by rcases List.mem_append.1 ht with h | h <;> simp [h]
    have e : t.n ≠ s.n := fun e => hns (e ▸ List.mem_map.2 ⟨t, ht, rfl⟩)
    have hne : Lit.int .u32 (t.n : Int) ≠ Lit.int .u32 (s.n : Int) := by intro h; injection h with _ h; omega
    rw [atKey_del_other hne]
    exact h2.pl t hts
theorem MapTo.put {w : World} {m : Nat} {L : List Sh} {s : Sh} (h : MapTo w m L) (hs : s.n ∉ L.map Sh.n) (hn : s.n < 4294967296) (hl : L.length < 4294967296) :
    ∃ w', (Instr.mapUpdate 100 (.map (some m)) (.int .u32 (s.n : Int)) (.pointer (some ⟨s.b, 0, none⟩))).run Tryz.prog w = .ok () w' ∧ MapTo w' m (L ++ [s]) ∧ Mv (· = m) w w' := by
  obtain ⟨D, h1, h2⟩ := h
  obtain ⟨w', hrun, hown, hturn⟩ := h1.store law32 Tryz.underlying100 (by unfold maxLen; omega) (key32 hn) (val := .pointer (some ⟨s.b, 0, none⟩)) (d := .lit (.int .i64 (s.b : Int))) (ps := []) rfl
  have hg := hturn.grown
  have hhs : Maps.has D (.int .u32 (s.n : Int)) = false := by rw [h2.has s.n hn, decide_eq_false hs]
  have hkl : WideAt.IsKeyLit (Lit.int .u32 (s.n : Int)) := by simp [WideAt.IsKeyLit]
  have hsz : Maps.size (D.put (.int .u32 (s.n : Int)) (.lit (.int .i64 (s.b : Int)))) = (L ++ [s]).length := by
    rw [size_put (h1.tidy law32), hhs, h2.size]
    simp
  refine ⟨w', hrun, ⟨D.put (.int .u32 (s.n : Int)) (.lit (.int .i64 (s.b : Int))), ?_, ⟨fun n hn' => ?_, fun t ht => ?_, hsz⟩⟩, ⟨hg.os, hg.tape, hg.output, hg.size, fun k hk hne => hg.block k hk (fun e => hne (by cases e; rfl))⟩⟩
  · have := own_tight hown
    rwa [hsz] at this
  · by_cases e : n = s.n
    · subst e
      rw [has_put_same h1.isMap hkl]
      simp
    · have hne : Lit.int .u32 (n : Int) ≠ Lit.int .u32 (s.n : Int) := by intro h; injection h with _ h; omega
      rw [has_put_other hne, h2.has n hn']
      rw [decide_eq_decide]
      simp [e]
  · rcases List.mem_append.1 ht with ht | ht
    · have e : t.n ≠ s.n := fun e => hs (e ▸ List.mem_map.2 ⟨t, ht, rfl⟩)
      have hne : Lit.int .u32 (t.n : Int) ≠ Lit.int .u32 (s.n : Int) := by intro h; injection h with _ h; omega
      rw [atKey_put_other hne]
      exact h2.pl t ht
    · rw [List.mem_singleton.1 ht]
      exact atKey_put_same h1.isMap hkl _ _
end Go.Proofs.YtlmofgfkclfgeaaGreat
/- Plain mathematics of the checksum: one step of the register, over numbers of any width; it is linear, and a text's register is so many steps of one great number. -/
namespace Go.Proofs.YtlmofgfkclfgeaaGreat
namespace Crc

/-- one bit of the register. -/
def stp (n : Nat) : Nat := if n % 2 = 1 then (n / 2) ^^^ 2197175160 else n / 2
/-- so many bits. -/
def stps : Nat → Nat → Nat
  | 0, n => n
  | k + 1, n => stps k (stp n)
/-- one byte. -/
def byt (r c : Nat) : Nat := stps 8 (r ^^^ c)
/-- a text. -/
def reg : Nat → List Int → Nat
  | r, [] => r
  | r, c :: t => reg (byt r c.toNat) t
/-- all bits. -/
def ones : Nat := 4294967295
/-- every bit turned. -/
def inv (a : Nat) : Nat := ones ^^^ a
/-- the checksum of what had s, and l behind it. -/
def more (s : Nat) (l : List Int) : Nat := inv (reg (inv s) l)
/-- a text as a number, the lowest byte first. -/
def num : List Int → Nat
  | [] => 0
  | c :: t => c.toNat ^^^ (256 * num t)

theorem xor_div2 (a b : Nat) : (a ^^^ b) / 2 = a / 2 ^^^ b / 2 := by
  have h := Nat.shiftRight_xor_distrib (a := a) (b := b) (i := 1)
  simpa [Nat.shiftRight_eq_div_pow] using h
theorem xor_mod2 (a b : Nat) : (a ^^^ b) % 2 = (a % 2 + b % 2) % 2 := by
  have h := Nat.testBit_xor a b 0
  simp only [Nat.testBit_zero] at h
  rcases Nat.mod_two_eq_zero_or_one a with h1 | h1 <;> rcases Nat.mod_two_eq_zero_or_one b with h2 | h2 <;> rcases Nat.mod_two_eq_zero_or_one (a ^^^ b) with h3 | h3 <;> simp [h1, h2, h3] at h ⊢
theorem xor_zero_iff (a b : Nat) : a ^^^ b = 0 ↔ a = b := by
  constructor
  · intro h
    have e : a ^^^ b ^^^ b = 0 ^^^ b := by rw [h]
    rw [Nat.xor_assoc, Nat.xor_self, Nat.xor_zero, Nat.zero_xor] at e
    exact e
  · intro h; rw [h, Nat.xor_self]

theorem stp_xor (a b : Nat) : stp (a ^^^ b) = stp a ^^^ stp b := by
  unfold stp
  rw [xor_div2]
  have hm := xor_mod2 a b
  by_cases ha : a % 2 = 1 <;> by_cases hb : b % 2 = 1
  · rw [if_neg (by omega), if_pos ha, if_pos hb]
    apply Nat.eq_of_testBit_eq; intro i; simp only [Nat.testBit_xor]
    cases (a / 2).testBit i <;> cases (b / 2).testBit i <;> cases Nat.testBit 2197175160 i <;> rfl
  · rw [if_pos (by omega), if_pos ha, if_neg hb]
    apply Nat.eq_of_testBit_eq; intro i; simp only [Nat.testBit_xor]
    cases (a / 2).testBit i <;> cases (b / 2).testBit i <;> cases Nat.testBit 2197175160 i <;> rfl
  · rw [if_pos (by omega), if_neg ha, if_pos hb, Nat.xor_assoc]
  · rw [if_neg (by omega), if_neg ha, if_neg hb]
theorem stp_two (a : Nat) : stp (2 * a) = a := by
  unfold stp; rw [if_neg (by omega)]; omega
theorem stp_lt (a : Nat) (h : a < 4294967296) : stp a < 4294967296 := by
  unfold stp; split
  · exact Nat.xor_lt_two_pow (n := 32) (by omega) (by decide)
  · omega
theorem stp_zero_of (a : Nat) (h : a < 4294967296) (e : stp a = 0) : a = 0 := by
  unfold stp at e
  by_cases ha : a % 2 = 1
  · rw [if_pos ha, xor_zero_iff] at e; omega
  · rw [if_neg ha] at e; omega

theorem stps_xor (k a b : Nat) : stps k (a ^^^ b) = stps k a ^^^ stps k b := by
  induction k generalizing a b with
  | zero => rfl
  | succ k ih => simp only [stps]; rw [stp_xor, ih]
theorem stps_add (j k a : Nat) : stps (j + k) a = stps k (stps j a) := by
  induction j generalizing a with
  | zero => rw [Nat.zero_add]; rfl
  | succ j ih => rw [Nat.succ_add]; simp only [stps]; rw [ih]
theorem stps_succ (k a : Nat) : stps (k + 1) a = stp (stps k a) := by
  rw [stps_add]; rfl
theorem stps_shift (k a : Nat) : stps k (2 ^ k * a) = a := by
  induction k generalizing a with
  | zero => simp [stps]
  | succ k ih =>
    simp only [stps]
    have e : 2 ^ (k + 1) * a = 2 * (2 ^ k * a) := by rw [Nat.pow_succ, Nat.mul_comm (2 ^ k) 2, Nat.mul_assoc]
    rw [e, stp_two, ih]
theorem stps_lt (k a : Nat) (h : a < 4294967296) : stps k a < 4294967296 := by
  induction k generalizing a with
  | zero => exact h
  | succ k ih => exact ih _ (stp_lt a h)
theorem stps_zero (k : Nat) : stps k 0 = 0 := by
  induction k with
  | zero => rfl
  | succ k ih => simp only [stps]; exact ih
theorem stps_zero_of (k a : Nat) (h : a < 4294967296) (e : stps k a = 0) : a = 0 := by
  induction k generalizing a with
  | zero => exact e
  | succ k ih => exact stp_zero_of a h (ih _ (stp_lt a h) e)

/-- four bits at once, by the table of what half a byte comes to. -/
theorem half (r : Nat) : r / 16 ^^^ stps 4 (r % 16) = stps 4 r := by
  have e : r = (2 ^ 4 * (r / 16)) ^^^ (r % 16) := by
    have h := Nat.two_pow_add_eq_or_of_lt (i := 4) (b := r % 16) (by omega) (r / 16)
    have hd : 2 ^ 4 * (r / 16) + r % 16 = r := by omega
    have hx : 2 ^ 4 * (r / 16) ^^^ r % 16 = 2 ^ 4 * (r / 16) ||| r % 16 := by
      apply Nat.eq_of_testBit_eq; intro i
      simp only [Nat.testBit_xor, Nat.testBit_or]
      by_cases hi : i < 4
      · have : (2 ^ 4 * (r / 16)).testBit i = false := by
          rw [Nat.testBit_two_pow_mul]; simp; omega
        rw [this]; simp
      · have : (r % 16).testBit i = false := by
          apply Nat.testBit_lt_two_pow
          have : 2 ^ 4 ≤ 2 ^ i := Nat.pow_le_pow_right (by omega) (by omega)
          omega
        rw [this]; simp
    rw [hx, ← h, hd]
  have h2 : stps 4 ((2 ^ 4 * (r / 16)) ^^^ (r % 16)) = stps 4 r := congrArg (stps 4) e.symm
  rw [← h2, stps_xor, stps_shift]
theorem two_halves (r c : Nat) : stps 4 (stps 4 (r ^^^ c)) = byt r c := by
  unfold byt; rw [← stps_add]

theorem reg_nil (r : Nat) : reg r [] = r := rfl
theorem byt_lt (r c : Nat) (h : r < 4294967296) (hc : c < 256) : byt r c < 4294967296 :=
  stps_lt 8 _ (Nat.xor_lt_two_pow (n := 32) (by omega) (by omega))
theorem reg_lt (r : Nat) (l : List Int) (h : r < 4294967296) (hl : ∀ c ∈ l, 0 ≤ c ∧ c ≤ 255) : reg r l < 4294967296 := by
  induction l generalizing r with
  | nil => exact h
  | cons c t ih =>
    have hc := hl c (by simp)
    exact ih _ (byt_lt r c.toNat h (by omega)) (fun d hd => hl d (by simp [hd]))
theorem reg_append (r : Nat) (l m : List Int) : reg r (l ++ m) = reg (reg r l) m := by
  induction l generalizing r with
  | nil => rfl
  | cons c t ih => exact ih _
theorem reg_snoc (r : Nat) (l : List Int) (c : Int) : reg r (l ++ [c]) = byt (reg r l) c.toNat := by
  rw [reg_append]; rfl
theorem reg_cons (r : Nat) (c : Int) (t : List Int) : reg r (c :: t) = reg (byt r c.toNat) t := rfl
theorem num_cons (c : Int) (t : List Int) : num (c :: t) = c.toNat ^^^ (256 * num t) := rfl
theorem stps_k (k a m : Nat) : stps k (a ^^^ 2 ^ k * m) = stps k a ^^^ m := by
  rw [stps_xor, stps_shift]
theorem byt_num (r c m : Nat) : stps 8 (r ^^^ (c ^^^ 256 * m)) = byt r c ^^^ m := by
  have h := stps_k 8 (r ^^^ c) m
  have e : (2 : Nat) ^ 8 = 256 := by decide
  rw [e, Nat.xor_assoc] at h
  exact h
theorem reg_num (r : Nat) (l : List Int) : reg r l = stps (8 * l.length) (r ^^^ num l) := by
  induction l generalizing r with
  | nil => rw [num, Nat.xor_zero]; rfl
  | cons c t ih =>
    have e : 8 * (c :: t).length = 8 + 8 * t.length := by rw [List.length_cons]; omega
    rw [e, stps_add, num_cons, byt_num, reg_cons, ih]
theorem xor_lt32 (f a : Nat) (h0 : f < 4294967296) (h : a < 4294967296) : f ^^^ a < 4294967296 :=
  Nat.xor_lt_two_pow (n := 32) (by omega) (by omega)
theorem inv_lt (a : Nat) (h : a < 4294967296) : inv a < 4294967296 := by
  rw [inv]; exact xor_lt32 ones a (by rw [ones]; omega) h
theorem xor_twice (f a : Nat) : f ^^^ (f ^^^ a) = a := by
  rw [← Nat.xor_assoc, Nat.xor_self, Nat.zero_xor]
theorem more_lt (s : Nat) (l : List Int) (h : s < 4294967296) (hl : ∀ c ∈ l, 0 ≤ c ∧ c ≤ 255) : more s l < 4294967296 :=
  inv_lt _ (reg_lt _ _ (inv_lt _ h) hl)
theorem inv_inv (a : Nat) : inv (inv a) = a := by
  rw [inv, inv]; exact xor_twice ones a
theorem more_more (s : Nat) (l m : List Int) : more (more s l) m = more s (l ++ m) := by
  unfold more; rw [inv_inv, reg_append]
theorem more_nil (s : Nat) : more s [] = s := by
  rw [more, reg_nil, inv_inv]
theorem xor_left (a b c : Nat) (h : a ^^^ b = a ^^^ c) : b = c := by
  have e : a ^^^ (a ^^^ b) = a ^^^ (a ^^^ c) := by rw [h]
  rw [← Nat.xor_assoc, ← Nat.xor_assoc, Nat.xor_self, Nat.zero_xor, Nat.zero_xor] at e
  exact e
theorem eq_iff_aux (o f p q : Nat) : o ^^^ (f ^^^ p) = o ^^^ (f ^^^ q) ↔ p = q := by
  constructor
  · intro e; exact xor_left _ _ _ (xor_left _ _ _ e)
  · intro e; rw [e]
theorem more_eq_iff (a b : List Int) (h : a.length = b.length) : more 0 a = more 0 b ↔ stps (8 * b.length) (num a ^^^ num b) = 0 := by
  rw [more, more, reg_num, reg_num, h, stps_xor, stps_xor, stps_xor, xor_zero_iff]
  rw [inv, inv]
  exact eq_iff_aux _ _ _ _
theorem four_aux (o f p q : Nat) : o ^^^ (f ^^^ p) ^^^ (o ^^^ (f ^^^ q)) ^^^ (o ^^^ (f ^^^ (p ^^^ q))) ^^^ (o ^^^ (f ^^^ 0)) = 0 := by
  apply Nat.eq_of_testBit_eq; intro i; simp only [Nat.testBit_xor, Nat.zero_testBit]
  cases f.testBit i <;> cases p.testBit i <;> cases q.testBit i <;> cases o.testBit i <;> rfl
/-- the four sums of two texts of one length. -/
theorem more_four (a b x z : List Int) (n : Nat) (ha : a.length = n) (hb : b.length = n) (hx : x.length = n) (hz : z.length = n)
    (hX : num x = num a ^^^ num b) (hZ : num z = 0) : more 0 a ^^^ more 0 b ^^^ more 0 x ^^^ more 0 z = 0 := by
  rw [more, more, more, more, reg_num, reg_num, reg_num, reg_num, ha, hb, hx, hz, hX, hZ, stps_xor, stps_xor, stps_xor, stps_xor, stps_xor, stps_zero]
  rw [inv, inv, inv, inv]
  exact four_aux _ _ _ _

end Crc
end Go.Proofs.YtlmofgfkclfgeaaGreat
/- Plain mathematics of a change within 32 bits that stand in a row. -/
namespace Go.Proofs.YtlmofgfkclfgeaaGreat
namespace Crc

theorem shl_xor (f x y : Nat) : 2 ^ f * (x ^^^ y) = 2 ^ f * x ^^^ 2 ^ f * y := by
  have h := Nat.shiftLeft_xor_distrib (a := x) (b := y) (i := f)
  simp only [Nat.shiftLeft_eq] at h
  rw [Nat.mul_comm _ (x ^^^ y), Nat.mul_comm _ x, Nat.mul_comm _ y]
  exact h
theorem mul256_xor (x y : Nat) : 256 * (x ^^^ y) = 256 * x ^^^ 256 * y := by
  have h := shl_xor 8 x y
  have e : (2 : Nat) ^ 8 = 256 := by decide
  rw [e] at h
  exact h

/-- the changed bits that lie in the text, of the first k. -/
def eff (C F M : Nat) : Nat → Nat
  | 0 => 0
  | k + 1 => if C.testBit k = true ∧ F + k < M then eff C F M k ^^^ 2 ^ k else eff C F M k
theorem eff_lt (C F M k : Nat) : eff C F M k < 2 ^ k := by
  induction k with
  | zero => exact Nat.one_pos
  | succ k ih =>
    rw [eff]
    have hp : 2 ^ k < 2 ^ (k + 1) := Nat.pow_lt_pow_right (by omega) (by omega)
    split
    · exact Nat.xor_lt_two_pow (by omega) hp
    · omega
theorem eff_yes (C F M k : Nat) (h1 : C.testBit k = true) (h2 : F + k < M) : eff C F M (k + 1) = eff C F M k ^^^ 2 ^ k := by
  rw [eff, if_pos ⟨h1, h2⟩]
theorem eff_no (C F M k : Nat) (h : ¬ (C.testBit k = true ∧ F + k < M)) : eff C F M (k + 1) = eff C F M k := by
  rw [eff, if_neg h]
theorem eff_ne (C F M k : Nat) (h1 : C.testBit k = true) (h2 : F + k < M) : eff C F M (k + 1) ≠ 0 := by
  rw [eff_yes C F M k h1 h2]
  intro h
  have e := (xor_zero_iff _ _).1 h
  have := eff_lt C F M k
  omega

/-- one byte of a text with some bits turned. -/
theorem num_set (xs : List Int) (j : Nat) (hj : j < xs.length) (c : Int) (d : Nat) (hc : c.toNat = (xs.getD j 0).toNat ^^^ d) : num (xs.set j c) = num xs ^^^ (2 ^ (8 * j) * d) := by
  induction xs generalizing j with
  | nil => simp at hj
  | cons x t ih =>
    cases j with
    | zero =>
      have hc' : c.toNat = x.toNat ^^^ d := hc
      rw [List.set_cons_zero, num_cons, num_cons, hc', Nat.mul_zero, Nat.pow_zero, Nat.one_mul, Nat.xor_assoc, Nat.xor_comm d, Nat.xor_assoc]
    | succ j =>
      have h := ih j (by simpa using hj) hc
      have e : 2 ^ (8 * (j + 1)) * d = 256 * (2 ^ (8 * j) * d) := by
        rw [Nat.mul_add, Nat.pow_add, ← Nat.mul_assoc 256, Nat.mul_comm 256 (2 ^ (8 * j))]
      rw [List.set_cons_succ, num_cons, num_cons, h, mul256_xor, e, Nat.xor_assoc]
/-- one round: bit F + k is turned. -/
theorem num_round (xs zs : List Int) (F k E j t : Nat) (c : Int) (hj : j < xs.length) (hb : F + k = 8 * j + t) (hn : num xs = num zs ^^^ 2 ^ F * E) (hc : c.toNat = (xs.getD j 0).toNat ^^^ 2 ^ t) :
    num (xs.set j c) = num zs ^^^ 2 ^ F * (E ^^^ 2 ^ k) := by
  rw [num_set xs j hj c (2 ^ t) hc, hn, shl_xor, ← Nat.pow_add, ← Nat.pow_add, hb, Nat.xor_assoc]
/-- the sums are unlike just if a bit has been turned. -/
theorem burst (xs zs : List Int) (F E : Nat) (hl : xs.length = zs.length) (hF : F ≤ 8 * zs.length) (hE : E < 4294967296) (hn : num xs = num zs ^^^ 2 ^ F * E) : more 0 xs = more 0 zs ↔ E = 0 := by
  rw [more_eq_iff xs zs hl, hn, Nat.xor_comm (num zs), Nat.xor_assoc, Nat.xor_self, Nat.xor_zero]
  have e : 8 * zs.length = F + (8 * zs.length - F) := by omega
  rw [e, stps_add, stps_shift]
  constructor
  · intro h; exact stps_zero_of _ _ hE h
  · intro h; rw [h, stps_zero]
end Crc
end Go.Proofs.YtlmofgfkclfgeaaGreat
