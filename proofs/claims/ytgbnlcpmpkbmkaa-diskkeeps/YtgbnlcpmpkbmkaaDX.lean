/- A trip; what a write answers when the power goes; rows of 16-bit numbers that came in. -/
import Derived.Test.YtgbnlcpmpkbmkaaDV
namespace Go.Proofs.Ytgbnlcpmpkbmkaa
open Go.ChangeShapes Go.WideShapes Go.ChangeAt Go.RowKit
set_option linter.unusedVariables false

/-- what a walk is told of a slice of integers that came in. -/
def IsRow (k : IntKind) (w : World) (a : Option Addr) (len cap : Nat) (zs : List Int) : Prop :=
  (a = none ∧ len = 0 ∧ cap = 0 ∧ zs = []) ∨
  ∃ x, a = some x ∧ len ≤ cap ∧ cap ≤ maxLen ∧ zs.length = cap ∧ (∀ i, i < zs.length → w.cell? (x.add i) = some (.int k (zs.getD i 0))) ∧ ∀ n ∈ zs, (Lit.int k n).wf = true
/-- the first cells of a slice hold these 16-bit numbers. -/
def WRow (w : World) (a : Option Addr) (xs : List Nat) : Prop :=
  xs = [] ∨ ∃ b off, a = some ⟨b, off, none⟩ ∧ b < w.heap.size ∧ ∀ i, i < xs.length → w.cell? ⟨b, off + i, none⟩ = some (.int .u16 ((xs.getD i 0 : Nat) : Int))
theorem WRow.below {w w' : World} {a : Option Addr} {xs : List Nat} (h : WRow w a xs) (hb : Below w.heap.size w w') : WRow w' a xs := by
  rcases h with h | ⟨b, off, rfl, hlt, hc⟩
  · exact .inl h
  · exact .inr ⟨b, off, rfl, Nat.lt_of_lt_of_le hlt hb.size, fun i hi => (hb.cell (p := ⟨b, off + i, none⟩) hlt).trans (hc i hi)⟩
theorem isrow16 {w : World} {a : Option Addr} {len cap : Nat} {zs : List Int} (h : IsRow .u16 w a len cap zs) :
    WRow w a ((zs.take len).map Int.toNat) ∧ (∀ x ∈ (zs.take len).map Int.toNat, x ≤ 65535) ∧ ((zs.take len).map Int.toNat).length = len ∧ len ≤ 9223372036854775807 := by
  rcases h with ⟨rfl, rfl, rfl, rfl⟩ | ⟨x, rfl, hl, hm, hz, hcell, hwz⟩
  · exact ⟨.inl rfl, (by intro c hc; simp at hc), rfl, by omega⟩
  · have hlen : ((zs.take len).map Int.toNat).length = len := by simp; omega
    have hb : ∀ n ∈ zs, 0 ≤ n ∧ n ≤ 65535 := fun n hn => bounds_u16 (hwz n hn)
    refine ⟨?_, ?_, hlen, by unfold maxLen at hm; omega⟩
    · by_cases h0 : len = 0
      · subst h0; exact .inl rfl
      · obtain ⟨b, off, spot⟩ := x
        have hc := hcell 0 (by omega)
        have hspot : spot = none := by simpa [Addr.add] using World.cell?_spot hc
        subst hspot
        refine .inr ⟨b, off, rfl, ?_, fun i hi => ?_⟩
        · have := World.block_lt_of_cell? w _ hc
          rw [Addr.add_lit] at this
          exact this
        · rw [hlen] at hi
          have h1 := hcell i (by omega)
          rw [Addr.add_lit] at h1
          rw [h1]
          have h2 := (hb (zs.getD i 0) (getD_mem _ _ _ (by omega))).1
          have e : ((zs.take len).map Int.toNat).getD i 0 = (zs.getD i 0).toNat := by
            rw [List.getD_eq_getElem?_getD, List.getElem?_map, List.getElem?_take, if_pos hi, List.getD_eq_getElem?_getD, List.getElem?_eq_getElem (by omega)]
            rfl
          rw [e, Int.toNat_of_nonneg h2]
    · intro y hy
      obtain ⟨n, hn, rfl⟩ := List.mem_map.1 hy
      have := hb n (List.mem_of_mem_take hn)
      omega

/-- a disk with a trip. -/
def DS.trip (S : DS) (n : Int) : DS := { S with ts := true, tl := n }
set_option maxHeartbeats 800000 in
set_option maxRecDepth 1000000 in
theorem trip_any (p q : Nat) (O : Nat → Prop) (S : DS) (n : Int) (w : World) (h : DkAt w p q S O) (h0 : 0 ≤ n) (h1 : n ≤ 9223372036854775807) (hdk : S.dk = false) :
    Calls Try.prog 27 #[.pointer (some ⟨p, 0, none⟩), .int .i64 n] w fun e w' => e = .returned (.int .u16 0) ∧ DkAt w' p q (S.trip n) O ∧ Go1 O w O w' := by
  obtain ⟨vw, m, hd, ho⟩ := h
  have c3 := hd.c 3 (.bool S.dk) rfl
  rw [hdk] at c3
  have c4 := hd.c 4 _ rfl
  have c5 := hd.c 5 _ rfl
  have f4 := hd.f 4
  have f5 := hd.f 5
  have hbd := build96 n
  have hn : decide (n < 0) = false := by simp; omega
  have HF : Hid (DkAt (sets w p [(4, .bool true), (5, .int .i64 n)]) p q (S.trip n) O ∧ Go1 O w O (sets w p [(4, .bool true), (5, .int .i64 n)])) := by
    refine ⟨⟨vw, m, hd.fields (S' := S.trip n) rfl rfl ⟨hd.good.ls, hd.good.ws, hd.good.most, hd.good.few, ⟨h0, h1⟩, hd.good.f1, hd.good.f2, hd.good.f3, hd.good.n1, hd.good.n2, hd.good.n3⟩ ?_ (fun k hk => sets_other p k hk _ w), ho⟩, Go1.of_mv (sets_mv p _ w) ((ho p).2 (.inl rfl))⟩
    rw [sets_blk p 100 _ w _ hd.blk]
    simp only [List.foldl_cons, List.foldl_nil, cells, List.setIfInBounds_toArray, List.set_cons_succ, List.set_cons_zero, DS.trip]
  clear hd ho h0 h1
  go_enter Try.func27, Try.ntmps27
  go_wp2
  go_ret
  exact ⟨rfl, HF.out⟩
theorem write_dark (p q : Nat) (O : Nat → Prop) (S : DS) (pg : Nat) (P : Int) (b len : Nat) (c : Int) (N : Nat) (w : World) (h : DkAt w p q S O) (hP : P = (pg : Int)) (hc : 0 ≤ c ∧ c ≤ 255)
    (ob : ¬ O b) (hr : Row w (some ⟨b, 0, none⟩) (List.replicate len c)) (hbl : b < w.heap.size) (hpg : pg < S.ls.length / 8) (hl8 : S.ls.length % 8 = 0) (hN : len = 1024 ∧ N = 8 ∨ len = 128 ∧ N = 1) (hf : S.ws.length + 8 ≤ 1000000) (hn : S.n2 + 1 ≤ 1000000) (he : S.er S.s2 S.l2 = 4) :
    Calls Try.prog 22 #[.pointer (some ⟨p, 0, none⟩), .int .i64 P, .slice (some ⟨b, 0, none⟩) len len] w fun e w' => e = .returned (.int .u16 4) ∧ ∃ O', DkAt w' p q (S.be S.op2) O' ∧ Go1 O w O' w' := by
  subst hP
  refine (write_any p q O S pg b 0 len len (List.replicate len c) N w h ob hr hbl (by simp) (rep_byts len c hc) (Nat.le_refl _) (by omega) hpg hl8 hN hf hn).mono ?_
  rintro e w' ⟨rfl, O', hd, hg⟩
  refine ⟨by rw [he]; rfl, O', ?_, hg⟩
  rwa [DS.wr, if_neg (by omega)] at hd

/-- a disk behind a trip of T and i writes. -/
structure Trp (M T i : Nat) (S : DS) : Prop where
  ls : S.ls.length = 8 * M
  ws : S.ws.length = min i T
  n2 : S.n2 = ((min i T : Nat) : Int)
  n1 : S.n1 = 0
  s2 : S.s2 = false
  on : i ≤ T → S.dk = false ∧ S.ts = true ∧ S.tl = ((T - i : Nat) : Int)
  off : T < i → S.dk = true
theorem Trp.er0 {M T i : Nat} {S : DS} (h : Trp M T i S) (hi : i < T) : S.er S.s2 S.l2 = 0 := by
  obtain ⟨h1, h2, h3⟩ := h.on (by omega)
  simp [DS.er, h1, tick, h2, h3, h.s2, show ¬ (T - i = 0) by omega]
theorem Trp.er4 {M T i : Nat} {S : DS} (h : Trp M T i S) (hi : T ≤ i) : S.er S.s2 S.l2 = 4 := by
  by_cases e : i = T
  · obtain ⟨h1, h2, h3⟩ := h.on (by omega)
    simp [DS.er, h1, tick, h2, h3, e]
  · simp [DS.er, h.off (by omega)]
theorem Trp.go {M T i : Nat} {S : DS} (h : Trp M T i S) (hi : i < T) (b : Nat) (zs : List Int) : Trp M T (i + 1) (S.op2.adds b zs 1) := by
  obtain ⟨h1, h2, h3⟩ := h.on (by omega)
  refine ⟨h.ls, ?_, ?_, h.n1, ?_, fun _ => ⟨h1, ?_, ?_⟩, fun h' => by omega⟩
  · rw [DS.adds_len]; show S.ws.length + 1 = _; rw [h.ws]; omega
  · show S.n2 + 1 = _; rw [h.n2]; omega
  · show (tick S.s2 S.l2).2.1 = false; simp [tick, h.s2]
  · show (tick S.ts S.tl).2.1 = true; simp [tick, h2, h3, show ¬ (T - i = 0) by omega]
  · show (tick S.ts S.tl).2.2 = _; simp [tick, h2, h3, show ¬ (T - i = 0) by omega]; omega
theorem Trp.stop {M T i : Nat} {S : DS} (h : Trp M T i S) (hi : T ≤ i) : Trp M T (i + 1) (S.be S.op2) ∧ (S.be S.op2).dk = true := by
  by_cases e : i = T
  · obtain ⟨h1, h2, h3⟩ := h.on (by omega)
    have hb : S.be S.op2 = S.out := by simp [DS.be, h1, tick, h2, h3, e]
    rw [hb]
    refine ⟨⟨h.ls, ?_, ?_, h.n1, h.s2, fun h' => by omega, fun _ => rfl⟩, rfl⟩
    · show S.ws.length = _; rw [h.ws]; omega
    · show S.n2 = _; rw [h.n2]; congr 1; omega
  · have hb : S.be S.op2 = S := by simp [DS.be, h.off (by omega)]
    rw [hb]
    refine ⟨⟨h.ls, ?_, ?_, h.n1, h.s2, fun h' => by omega, fun _ => h.off (by omega)⟩, h.off (by omega)⟩
    · rw [h.ws]; omega
    · rw [h.n2]; congr 1; omega
theorem Trp.start (M T : Nat) : Trp M T 0 ((DS.new (8 * M)).trip (T : Int)) :=
  ⟨by simp [DS.trip, DS.new], by simp [DS.trip, DS.new], by simp [DS.trip, DS.new], rfl, rfl, fun _ => ⟨rfl, rfl, rfl⟩, fun h => by omega⟩
theorem wrow_at {w : World} {a : Option Addr} {xs : List Nat} (h : ∀ W, Below w.heap.size w W → WRow W a xs) {k : Nat} (hk : k < xs.length) : ∃ b off, a = some ⟨b, off, none⟩ ∧ Hid (∀ W, Below w.heap.size w W → W.cell? ⟨b, off + k, none⟩ = some (.int .u16 ((xs.getD k 0 : Nat) : Int))) := by
  rcases h w (Below.refl _ _) with e | ⟨b, off, rfl, _, _⟩
  · subst e; simp at hk
  · refine ⟨b, off, rfl, fun W hb => ?_⟩
    rcases h W hb with e | ⟨b', off', e, _, hc⟩
    · subst e; simp at hk
    · cases e; exact hc k hk
theorem ownI_shape {w : World} {v : Value} {zs : List Nat} (h : OwnI w v zs) : ∃ a n c, v = .slice a n c ∧ zs.length = n := by
  rcases h.2 with ⟨e, e2⟩ | ⟨g, cap, cur, e, _⟩
  · exact ⟨none, 0, 0, e, e2⟩
  · exact ⟨_, _, cap, e, rfl⟩
theorem cut_len (S : DS) (bs : List Bool) : (S.cut bs).ls.length = S.ls.length := settled_len _ _ _ _
end Go.Proofs.Ytgbnlcpmpkbmkaa
