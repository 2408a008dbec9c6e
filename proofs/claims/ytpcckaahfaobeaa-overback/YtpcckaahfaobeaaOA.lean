/- Words and bytes in a row; a number as four bytes. -/
import Derived.Test.YtpcckaahfaobeaaOB0
import Derived.OwnWalk
import Derived.BigQuiet
namespace Go.Proofs.Ytpcckaahfaobeaa
open Go.RowKit Go.Maps
set_option linter.unusedVariables false
variable {w w' : World}
/-- nothing but drawn orders has turned. -/
structure Same (w w' : World) : Prop where
  os : w'.os = w.os
  tape : w'.tape = w.tape
  output : w'.output = w.output
  heap : w'.heap = w.heap
theorem Same.refl (w : World) : Same w w := ⟨rfl, rfl, rfl, rfl⟩
theorem Same.drew {w w' : World} (h : Same w w') : Same w w'.drew := ⟨h.os, h.tape, h.output, h.heap⟩
theorem Same.trans {a b c : World} (h : Same a b) (k : Same b c) : Same a c := ⟨k.os.trans h.os, k.tape.trans h.tape, k.output.trans h.output, k.heap.trans h.heap⟩
theorem Same.drewN {w w' : World} (h : Same w w') (n : Nat) : Same w (w'.drewN n) := ⟨h.os, h.tape, h.output, h.heap⟩
theorem Same.mv {O : Nat → Prop} {w w' : World} (h : Same w w') : Mv O w w' := ⟨h.os, h.tape, h.output, by rw [h.heap]; exact Nat.le_refl _, fun k _ _ => by rw [h.heap]⟩
theorem Same.below {w w' : World} (h : Same w w') : Below w.heap.size w w' := ⟨h.os, h.tape, h.output, by rw [h.heap]; exact Nat.le_refl _, fun k _ => by rw [h.heap]⟩
/-- a slice's first cells hold the words zs. -/
def Rw (w : World) (a : Option Addr) (zs : List Nat) : Prop :=
  zs = [] ∨ ∃ b off, a = some ⟨b, off, none⟩ ∧ b < w.heap.size ∧ ∀ i, i < zs.length → w.cell? ⟨b, off + i, none⟩ = some (.int .u32 ((zs.getD i 0 : Nat) : Int))
/-- words that may be. -/
def W32 (zs : List Nat) : Prop := ∀ z ∈ zs, z ≤ 4294967295
theorem Rw.below {a : Option Addr} {zs : List Nat} (h : Rw w a zs) (hb : Below w.heap.size w w') : Rw w' a zs := by
  rcases h with h | ⟨b, off, rfl, hlt, hc⟩
  · exact .inl h
  · exact .inr ⟨b, off, rfl, Nat.lt_of_lt_of_le hlt hb.size, fun i hi => (hb.cell (p := ⟨b, off + i, none⟩) hlt).trans (hc i hi)⟩
theorem W32.at {zs : List Nat} (h : W32 zs) (i : Nat) : zs.getD i 0 ≤ 4294967295 := by
  by_cases hi : i < zs.length
  · rw [List.getD_eq_getElem?_getD, List.getElem?_eq_getElem hi]; exact h _ (List.getElem_mem hi)
  · rw [List.getD_eq_getElem?_getD, List.getElem?_eq_none (by omega)]; simp
theorem all_at {zs : List Nat} {p : Nat → Bool} : zs.all p = true ↔ ∀ i, i < zs.length → p (zs.getD i 0) = true := by
  rw [List.all_eq_true]
  constructor
  · intro h i hi
    rw [List.getD_eq_getElem?_getD, List.getElem?_eq_getElem hi]; exact h _ (List.getElem_mem hi)
  · intro h x hx
    obtain ⟨i, hi, rfl⟩ := List.getElem_of_mem hx
    have := h i hi
    rwa [List.getD_eq_getElem?_getD, List.getElem?_eq_getElem hi] at this
/-- may a great value stand there? -/
def okp (n : Nat) : Bool := decide (2 ≤ n) && decide (n ≤ 16383)
/-- the words zs lie in a row of the call's own. -/
def OwnW (w : World) (v : Value) (zs : List Nat) : Prop := w.ownsRow 0 34 1 v zs.length (zs.map fun (z : Nat) => Value.int .u32 (z : Int))
theorem OwnW.nil (w : World) : OwnW w (.slice none 0 0) [] := World.ownsRow_nil w 0 34 1
theorem OwnW.lt {v : Value} {zs : List Nat} (h : OwnW w v zs) {k : Nat} (hk : v.ownBlock = some k) : k < w.heap.size := (World.ownsRow.lt h k hk).2
theorem OwnW.shape {v : Value} {zs : List Nat} (h : OwnW w v zs) : ∃ a c, v = .slice a zs.length c ∧ zs.length ≤ c ∧ c ≤ maxLen ∧ Rw w a zs ∧ ∀ k, (∃ ad, a = some ad ∧ ad.block = k) ↔ v.ownBlock = some k := by
  rcases h.2 with ⟨rfl, h0⟩ | ⟨g, cap, cur, rfl, _, hg, hn, hm, _⟩
  · exact ⟨none, 0, by rw [h0], by omega, by omega, .inl (List.eq_nil_of_length_eq_zero h0), fun k => by simp [Value.ownBlock]⟩
  · refine ⟨_, cap, rfl, hn, hm, .inr ⟨g, 0, rfl, lt_of_block hg, fun i hi => ?_⟩, fun k => by simp [Value.ownBlock]⟩
    have := World.ownsRow.cells h (g := g) rfl i (.int .u32 ((zs.getD i 0 : Nat) : Int)) (by simp [hi])
    rwa [Addr.add_lit] at this
theorem OwnW.of_block {v : Value} {zs : List Nat} (h : OwnW w v zs) (hb : ∀ k, v.ownBlock = some k → w'.heap[k]? = w.heap[k]?) : OwnW w' v zs := by
  obtain ⟨h1, h2⟩ := h
  refine ⟨h1, ?_⟩
  rcases h2 with h2 | ⟨g, cap, cur, rfl, hg, hh, r⟩
  · exact .inl h2
  · exact .inr ⟨g, cap, cur, rfl, hg, by rw [hb g rfl]; exact hh, r⟩
theorem infoU32 : (Try.prog.info? 34).map (fun i => (i.zero, i.size, i.bytes)) = some (some (.int .u32 0), 1, 4) := by kernel_rfl
theorem infoU8 : (Try.prog.info? 5).map (fun i => (i.zero, i.size, i.bytes)) = some (some (.int .u8 0), 1, 1) := by kernel_rfl
theorem infoBy : (Try.prog.info? 22).map (fun i => (i.zero, i.size, i.bytes)) = some (some (.slice none 0 0), 1, 24) := by kernel_rfl
theorem Rw.tail {a : Option Addr} {zs : List Nat} (h : Rw w a zs) (c : Nat) (hc : zs.length ≤ c) : Rw w (if c = 1 then a else a.map (fun x => x.add 1)) (zs.drop 1) := by
  by_cases hq : 1 < zs.length
  · rw [if_neg (by omega)]
    rcases h with rfl | ⟨b, off, rfl, hlt, hh⟩
    · exact .inl (by simp)
    · refine .inr ⟨b, off + 1, by rw [Option.map_some, Addr.add_lit], hlt, fun i hi => ?_⟩
      rw [List.length_drop] at hi
      rw [Nat.add_assoc, hh (1 + i) (by omega)]
      simp [List.getD_eq_getElem?_getD, Nat.add_comm 1 i]
  · exact .inl (List.drop_of_length_le (by omega))
theorem Row.cut {a : Option Addr} {zs : List Int} (h : Row w a zs) (q c : Nat) (hc : zs.length ≤ c) : Row w (if c = q then a else a.map (fun x => x.add q)) (zs.drop q) := by
  by_cases hq : q < zs.length
  · rw [if_neg (by omega)]
    rcases h with rfl | ⟨b, off, rfl, hlt, hh⟩
    · exact .inl (by simp)
    · refine .inr ⟨b, off + q, by rw [Option.map_some, Addr.add_lit], hlt, fun i hi => ?_⟩
      rw [List.length_drop] at hi
      rw [Nat.add_assoc, hh (q + i) (by omega)]
      simp [List.getD_eq_getElem?_getD]
  · exact .inl (List.drop_of_length_le (by omega))
theorem Row.take {a : Option Addr} {zs : List Int} (h : Row w a zs) (k : Nat) : Row w a (zs.take k) := by
  rcases h with rfl | ⟨b, off, rfl, hlt, hc⟩
  · exact .inl (by simp)
  · exact .inr ⟨b, off, rfl, hlt, fun i hi => by
      simp only [List.length_take] at hi
      rw [hc i (by omega)]
      simp [List.getD_eq_getElem?_getD, show i < k by omega]⟩
/-- a number as four bytes. -/
def le4 (n : Nat) : List Int := [(n : Int) % 256, (n : Int) / 256 % 256, (n : Int) / 65536 % 256, (n : Int) / 16777216]
theorem le4_len (n : Nat) : (le4 n).length = 4 := rfl
set_option maxHeartbeats 1600000 in
set_option maxRecDepth 1000000 in
theorem putNumber_any (w : World) (v : Value) (ys : List Int) (hv : Own w v ys) (n : Nat) (hn : n ≤ 4294967295) (hl : ys.length ≤ 1000000) :
    Calls Try.prog 27 #[v, .int .u32 (n : Int)] w fun e w' => ∃ v', e = .returned v' ∧ Own w' v' (ys ++ le4 n) ∧ (v'.ownBlock = v.ownBlock ∨ ∃ k, v'.ownBlock = some k ∧ w.heap.size ≤ k) ∧ Mv (fun k => v.ownBlock = some k) w w' := by
  obtain ⟨a, m, c, rfl, hm⟩ := hv.shape2
  have HV := hide hv
  obtain ⟨i0, hi, hz0, hz1, hz2⟩ := info_parts infoU8
  have HL := hide hl
  clear hv hl
  have HNw : Hid (∀ j u, ((le4 n).map (Value.int .u8))[j]? = some u → (w.alloc (.cells #[.int .u8 ((n : Int) % 256), .int .u8 ((n : Int) / 256 % 256), .int .u8 ((n : Int) / 65536 % 256), .int .u8 ((n : Int) / 16777216)] 5)).cell? ((⟨w.heap.size, 0, none⟩ : Addr).add j) = some u) := fun j u hu => by
    rw [Addr.add_lit, cell_of_row _ _ (0 + j) _ 5 (0, 0) (heap_alloc_new w _)]
    simpa [le4] using hu
  have HOne : Hid (∀ u ∈ (le4 n).map (Value.int .u8), u.oneCell' = true) := by
    intro u hu
    obtain ⟨x, _, rfl⟩ := List.mem_map.1 hu
    rfl
  go_enter Try.func27, Try.ntmps27
  go_wp2_with (at_builtin; refine wpList_append_own_at _ (by rfl) (.tmp 5) (.tmp 17) 22 (by rfl) 0 5 i0 (.int .u8 0) 1 1 Try.underlying22 hi hz0 hz1 hz2 rfl (by omega) (.slice a m c) ys.length (ys.map (Value.int .u8)) (by rfl) (World.ownsRow.alloc HV.out _) ⟨w.heap.size, 0, none⟩ 4 4 ((le4 n).map (Value.int .u8)) (by rfl) (by rfl) HNw.out HOne.out (by have := HL.out; unfold maxLen; omega) (by have := HL.out; omega) (Nat.zero_le _) ?_; intro v' w1 h1 h2 h3 h4; have H1 := hide h1; have H2 := hide h2; have H4 := hide h4; clear h1 h2 h3 h4)
  go_ret
  refine ⟨v', rfl, ?_, ?_, ((Mv.refl _ w).alloc _).grown H2.out (fun k hk => .inl hk)⟩
  · have := H1.out
    unfold Own
    rw [List.length_append, List.map_append]
    exact this
  · rcases H4.out with e | e
    · exact .inl e
    · exact .inr ⟨_, e, by simp⟩
end Go.Proofs.Ytpcckaahfaobeaa
