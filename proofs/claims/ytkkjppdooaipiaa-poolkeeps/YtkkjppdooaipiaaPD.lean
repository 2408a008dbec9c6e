/- The pages at hand, in memory: a map beside the ring. -/
import Derived.Test.YtkkjppdooaipiaaPC
namespace Go.Proofs.Ytkkjppdooaipiaa
open Go.RowKit Go.Maps
set_option linter.unusedVariables false

/-- a page at hand. -/
structure Pge where
  n : Nat
  k : Nat
  pl : List Int
def Sh.pg (s : Sh) : Pge := ⟨s.n, s.k, s.pl⟩
/-- all but the page of that number. -/
def wo (A : List Pge) (n : Nat) : List Pge := A.filter fun x => x.n != n
/-- how a pointer to a sheet reads, as an element of a map. -/
def ptrElem : Value → Option (DataW Unit × List MemPlace)
  | .pointer (some ⟨b, 0, none⟩) => some (.lit (.int .i64 (b : Int)), [])
  | .pointer none => some (.lit (.int .i64 (-1)), [])
  | _ => none
theorem ptrElem_inv {v : Value} {b : Nat} {ps : List MemPlace} (h : ptrElem v = some (.lit (.int .i64 (b : Int)), ps)) : v = .pointer (some ⟨b, 0, none⟩) := by
  unfold ptrElem at h
  split at h
  · rename_i b'
    simp at h
    obtain ⟨h, -⟩ := h
    have : b' = b := by omega
    rw [this]
  · have h := congrArg (fun x => x.map (·.1)) h
    simp at h
    try omega
  · cases h
theorem ptrElem_none {v : Value} {ps : List MemPlace} (h : ptrElem v = some (.lit (.int .i64 (-1)), ps)) : v = .pointer none := by
  unfold ptrElem at h
  split at h
  · have h := congrArg (fun x => x.map (·.1)) h
    simp at h
    try omega
  · rfl
  · cases h
/-- the map tells of each number its sheet. -/
structure Tll (D : DataW Unit) (L : List Sh) : Prop where
  has : ∀ n : Nat, n < 4294967296 → Maps.has D (.int .u32 (n : Int)) = decide (n ∈ L.map Sh.n)
  pl : ∀ s ∈ L, D.atKey (.int .u32 (s.n : Int)) (.lit (.int .i64 (-1))) = .lit (.int .i64 (s.b : Int))
  size : Maps.size D = L.length
def MapTo (w : World) (m : Nat) (L : List Sh) : Prop := ∃ D : DataW Unit, w.ownsMap Try.prog 33 ptrElem m L.length D ∧ Tll D L
theorem own_tight {P : Program} {k : TypeId} {R : Value → Option (DataW Unit × List MemPlace)} {w : World} {b n : Nat} {D : DataW Unit} (h : w.ownsMap P k R b n D) : w.ownsMap P k R b (Maps.size D) D := by
  obtain ⟨es, clock, hb, F, hs, hD⟩ := h
  refine ⟨es, clock, hb, F, ?_, hD⟩
  rw [hD]
  simp [Maps.size, length_sorted]
theorem MapTo.kept {w w' : World} {m : Nat} {L : List Sh} (h : MapTo w m L) (hb : w'.heap[m]? = w.heap[m]?) : MapTo w' m L := by
  obtain ⟨D, ⟨es, clock, h1, h2⟩, ht⟩ := h
  exact ⟨D, ⟨es, clock, hb.trans h1, h2⟩, ht⟩
theorem MapTo.perm {w : World} {m : Nat} {L L' : List Sh} (h : MapTo w m L) (hp : L'.Perm L) : MapTo w m L' := by
  obtain ⟨D, h1, h2⟩ := h
  refine ⟨D, by rw [hp.length_eq]; exact h1, ⟨fun n hn => ?_, fun s hs => h2.pl s (hp.mem_iff.1 hs), by rw [hp.length_eq]; exact h2.size⟩⟩
  rw [h2.has n hn]
  congr 1
  exact propext (hp.map Sh.n).mem_iff.symm
theorem MapTo.ismap {w : World} {m : Nat} {L : List Sh} (h : MapTo w m L) : ∃ es clock, w.heap[m]? = some (.map es clock) := by
  obtain ⟨D, ⟨es, clock, h1, h2⟩, ht⟩ := h
  exact ⟨es, clock, h1⟩
theorem zeroS : ∀ w, (zeroValue 68).run Try.prog w = .ok (.pointer none) w := (zero_of_info (P := Try.prog) (t := 68) (v := .pointer none) (n := 1) (by kernel_rfl)).1
theorem law32 : Keyed Try.prog 33 := int_keyed Try.underlying33
theorem key32 {n : Nat} (h : n < 4294967296) : keyOf Try.prog 33 (.int .u32 (n : Int)) = some (.int .u32 (n : Int)) := keyOf_int_mk Try.underlying33 (WalkArith.wf_u32 (by omega))
theorem MapTo.there {w : World} {m : Nat} {L : List Sh} (h : MapTo w m L) {s : Sh} (hs : s ∈ L) (hn : s.n < 4294967296) : (Instr.lookup 67 (.map (some m)) (.int .u32 (s.n : Int)) true).run Try.prog w = .ok (.tuple #[.pointer (some ⟨s.b, 0, none⟩), .bool true]) w := by
  obtain ⟨D, h1, h2⟩ := h
  obtain ⟨v, ps, hrun, hv⟩ := h1.look_ok law32 Try.underlying67 (zeroS w) (zd := .lit (.int .i64 (-1))) (zp := []) rfl (key32 hn)
  rw [h2.pl s hs] at hv
  rw [hrun, ptrElem_inv hv, h2.has s.n hn, decide_eq_true (List.mem_map.2 ⟨s, hs, rfl⟩)]
theorem MapTo.not {w : World} {m : Nat} {L : List Sh} (h : MapTo w m L) {n : Nat} (hs : n ∉ L.map Sh.n) (hn : n < 4294967296) : (Instr.lookup 67 (.map (some m)) (.int .u32 (n : Int)) true).run Try.prog w = .ok (.tuple #[.pointer none, .bool false]) w := by
  obtain ⟨D, h1, h2⟩ := h
  obtain ⟨v, ps, hrun, hv⟩ := h1.look_ok law32 Try.underlying67 (zeroS w) (zd := .lit (.int .i64 (-1))) (zp := []) rfl (key32 hn)
  have hh := h2.has n hn
  rw [decide_eq_false hs] at hh
  rw [atKey_of_not_has hh] at hv
  rw [hrun, ptrElem_none hv, hh]
theorem MapTo.len {w : World} {m : Nat} {L : List Sh} (h : MapTo w m L) (ty : TypeId) : (Builtin.len_ #[67] ty #[.map (some m)]).run Try.prog w = .ok (.int .i64 (L.length : Int)) w := by
  obtain ⟨D, h1, h2⟩ := h
  rw [h1.len Try.underlying67 ty, h2.size]
theorem MapTo.del {w : World} {m : Nat} {u v : List Sh} {s : Sh} (h : MapTo w m (u ++ s :: v)) (hnd : ((u ++ s :: v).map Sh.n).Nodup) (hn : s.n < 4294967296) (hr : ∀ t ∈ u ++ s :: v, t.n < 4294967296) (ty : TypeId) :
    ∃ w', (Builtin.delete_ #[67, 33] ty #[.map (some m), .int .u32 (s.n : Int)]).run Try.prog w = .ok (.tuple #[]) w' ∧ MapTo w' m (u ++ v) ∧ Mv (· = m) w w' := by
  obtain ⟨D, h1, h2⟩ := h
  obtain ⟨w', hrun, hown, hturn⟩ := h1.drop law32 Try.underlying67 (key32 hn) ty
  have hg := hturn.grown
  have hns : s.n ∉ (u ++ v).map Sh.n := by
    rw [List.map_append, List.map_cons] at hnd
    rw [List.map_append]
    have := (List.perm_middle.nodup_iff).1 hnd
    exact (List.nodup_cons.1 this).1
  have hhs : Maps.has D (.int .u32 (s.n : Int)) = true := by rw [h2.has s.n hn]; simp
  have hsz : Maps.size (D.del (.int .u32 (s.n : Int))) = (u ++ v).length := by
    have := size_del (k := .int .u32 (s.n : Int)) (h1.tidy law32)
    rw [hhs, h2.size] at this
    simp at this ⊢
    omega
  refine ⟨w', hrun, ⟨D.del (.int .u32 (s.n : Int)), ?_, ⟨fun n hn' => ?_, fun t ht => ?_, hsz⟩⟩, ⟨hg.os, hg.tape, hg.output, hg.size, fun k hk hne => hg.block k hk (fun e => hne (by cases e; rfl))⟩⟩
  · have := own_tight hown
    rwa [hsz] at this
  · by_cases e : n = s.n
    · subst e
      rw [has_del_same, decide_eq_false hns]
    · have hne : Lit.int .u32 (n : Int) ≠ Lit.int .u32 (s.n : Int) := by intro h; injection h with _ h; omega
      rw [has_del_other hne, h2.has n hn']
      rw [decide_eq_decide]
      simp [e]
  · have hts : t ∈ u ++ s :: v := by rcases List.mem_append.1 ht with h | h <;> simp [h]
    have e : t.n ≠ s.n := fun e => hns (e ▸ List.mem_map.2 ⟨t, ht, rfl⟩)
    have hne : Lit.int .u32 (t.n : Int) ≠ Lit.int .u32 (s.n : Int) := by intro h; injection h with _ h; omega
    rw [atKey_del_other hne]
    exact h2.pl t hts
theorem MapTo.put {w : World} {m : Nat} {L : List Sh} {s : Sh} (h : MapTo w m L) (hs : s.n ∉ L.map Sh.n) (hn : s.n < 4294967296) (hl : L.length < 4294967296) :
    ∃ w', (Instr.mapUpdate 67 (.map (some m)) (.int .u32 (s.n : Int)) (.pointer (some ⟨s.b, 0, none⟩))).run Try.prog w = .ok () w' ∧ MapTo w' m (L ++ [s]) ∧ Mv (· = m) w w' := by
  obtain ⟨D, h1, h2⟩ := h
  obtain ⟨w', hrun, hown, hturn⟩ := h1.store law32 Try.underlying67 (by unfold maxLen; omega) (key32 hn) (val := .pointer (some ⟨s.b, 0, none⟩)) (d := .lit (.int .i64 (s.b : Int))) (ps := []) rfl
  have hg := hturn.grown
  have hhs : Maps.has D (.int .u32 (s.n : Int)) = false := by rw [h2.has s.n hn, decide_eq_false hs]
  have hkl : WideAt.IsKeyLit (Lit.int .u32 (s.n : Int)) := by simp [WideAt.IsKeyLit]
  have hsz : Maps.size (D.put (.int .u32 (s.n : Int)) (.lit (.int .i64 (s.b : Int)))) = (L ++ [s]).length := by
    rw [size_put (h1.tidy law32), hhs, h2.size]
    simp
  refine ⟨w', hrun, ⟨D.put (.int .u32 (s.n : Int)) (.lit (.int .i64 (s.b : Int))), ?_, ⟨fun n hn' => ?_, fun t ht => ?_, hsz⟩⟩, ⟨hg.os, hg.tape, hg.output, hg.size, fun k hk hne => hg.block k hk (fun e => hne (by cases e; rfl))⟩⟩
  · have := own_tight hown
    rwa [hsz] at this
  · by_cases e : n = s.n
    · subst e
      rw [has_put_same h1.isMap hkl]
      simp
    · have hne : Lit.int .u32 (n : Int) ≠ Lit.int .u32 (s.n : Int) := by intro h; injection h with _ h; omega
      rw [has_put_other hne, h2.has n hn']
      rw [decide_eq_decide]
      simp [e]
  · rcases List.mem_append.1 ht with ht | ht
    · have e : t.n ≠ s.n := fun e => hs (e ▸ List.mem_map.2 ⟨t, ht, rfl⟩)
      have hne : Lit.int .u32 (t.n : Int) ≠ Lit.int .u32 (s.n : Int) := by intro h; injection h with _ h; omega
      rw [atKey_put_other hne]
      exact h2.pl t ht
    · rw [List.mem_singleton.1 ht]
      exact atKey_put_same h1.isMap hkl _ _
end Go.Proofs.Ytkkjppdooaipiaa
