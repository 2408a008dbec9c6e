/- The document's Read of a chain, whatever pages there are. -/
import Derived.Test.YtlmofgfkclfgeaaGreatYL
namespace Go.Proofs.YtlmofgfkclfgeaaGreat
open Go.RowKit Go.Maps
set_option linter.unusedVariables false
variable {w w' w0 w1 w2 : World} {p2 r most : Nat} {S S' : DS} {A A' : List Pge} {O O1 O2 : Nat → Prop}

theorem be_n1 (S S' : DS) (h : S'.n1 ≤ S.n1 + 1) : (S.be S').n1 ≤ S.n1 + 1 := by
  unfold DS.be
  by_cases h1 : S.dk = true
  · rw [if_pos h1]; omega
  · rw [if_neg h1]
    by_cases h2 : (tick S.ts S.tl).1 = true
    · rw [if_pos h2]; show S.n1 ≤ S.n1 + 1; omega
    · rw [if_neg h2]; exact h
theorem rdo_pl (h : Qp w p2 r S most A O) (N : Nat) : (rdo most S A N).pl.length ≤ 1008 := by
  by_cases hr : N < S.ls.length / 8
  · by_cases hx : N ∈ A.map Pge.n
    · obtain ⟨x, hxA, rfl, e⟩ := rdo_hand (most := most) (S := S) hr hx
      rw [e]
      obtain ⟨O1, v, H, h1, h2, rfl, h4, h5⟩ := h
      obtain ⟨z, hz, rfl⟩ := List.mem_map.1 hxA
      exact (h2.pay z hz).2.1
    · rw [rdo_none hr hx]
      by_cases he : S.er S.s1 S.l1 = 0
      · rw [if_pos he]
        cases hR : Pg.opn N (rd S (8 * N) 8) with
        | none => simp
        | some kp => exact (Pg.opn_some (kind := kp.1) (pl := kp.2) hR).2.2.1
      · rw [if_neg he]; simp
  · rw [rdo_off hr]; simp
theorem inn_le (A : List Pge) (m : Nat) (x : Pge) : (inn m A x).length ≤ A.length + 1 := by
  unfold inn
  split <;> simp
theorem rdo_more (most : Nat) (S : DS) (A : List Pge) (N : Nat) : (rdo most S A N).S.n1 ≤ S.n1 + 1 ∧ (rdo most S A N).A.length ≤ A.length + 1 := by
  have h0 : S.n1 ≤ S.n1 + 1 := by omega
  have h1 : (S.op1).n1 ≤ S.n1 + 1 := Int.le_refl _
  by_cases hr : N < S.ls.length / 8
  · by_cases hx : N ∈ A.map Pge.n
    · obtain ⟨x, hxA, rfl, e⟩ := rdo_hand (most := most) (S := S) hr hx
      rw [e]
      refine ⟨h0, ?_⟩
      have : (wo A x.n).length ≤ A.length := List.length_filter_le _ _
      simp
      omega
    · rw [rdo_none hr hx]
      by_cases he : S.er S.s1 S.l1 = 0
      · rw [if_pos he]
        cases hR : Pg.opn N (rd S (8 * N) 8) with
        | none => exact ⟨h1, Nat.le_succ _⟩
        | some kp => exact ⟨h1, inn_le _ _ _⟩
      · rw [if_neg he]
        exact ⟨be_n1 S _ h1, Nat.le_succ _⟩
  · rw [rdo_off hr]
    exact ⟨h0, Nat.le_succ _⟩
theorem Cs.nil {vv vp : Value} {v : List Int} {ps : List Nat} (h : Cs w0 w p2 r most S A O O1 vv vp v ps) : Cs w0 w p2 r most S A O O1 (.slice none 0 0) (.slice none 0 0) [] [] :=
  ⟨h.q, h.go, Own.nil _, World.ownsRow_nil _ _ _ _, by simp [Value.ownBlock], by simp [Value.ownBlock]⟩
/-- Part of any page: one form. -/
def PtO (w w' : World) (ok last : Bool) (pl : List Int) (b long c : Nat) (e : Ending) : Prop := ∃ (x : Nat) (sl : Value), e = .returned (.tuple #[.int .u32 (x : Int), sl, .bool ok]) ∧ Below w.heap.size w w' ∧ (ok = true → x = (if last then 0 else nx4 pl) ∧ sl = .slice (some ⟨b, 4, none⟩) long (c - 4)) ∧ ∃ a n m, sl = .slice a n m
theorem part_any {v : Value} (k : Nat) (pl : List Int) (hs : Sl w v pl) (hb : Byts pl) (hp : pl.length ≤ 100000) (last : Bool) (long : Nat) (h1 : 1 ≤ long) (hl : long ≤ 1004) (ok : Bool) (hok : ok = (decide (k = 3 ∧ pl.length = 4 + long) && prtOk pl last)) :
    ∃ a c b, v = .slice a pl.length c ∧ (ok = true → a = some ⟨b, 0, none⟩ ∧ pl.length = 4 + long ∧ 4 < c ∧ b < w.heap.size) ∧ Calls Tryz.prog 26 #[.int .u8 (k : Int), .slice a pl.length c, .bool last, .int .i64 (long : Int)] w fun e w' => PtO w w' ok last pl b long c e := by
  obtain ⟨a, c, rfl, h2, h3, h4, h5⟩ := Sl.shape hs
  by_cases hc : k = 3 ∧ pl.length = 4 + long
  · obtain ⟨rfl, hc⟩ := hc
    have hin := own_inn hs hb
    obtain ⟨b, rfl⟩ : ∃ b, a = some ⟨b, 0, none⟩ := by
      rcases hs.2 with ⟨e, h0⟩ | ⟨g, cap, cur, e, _⟩
      · simp at h0; rw [h0] at hc; simp at hc; omega
      · cases e; exact ⟨_, rfl⟩
    rw [decide_eq_true (And.intro rfl hc), Bool.true_and] at hok
    subst hok
    refine ⟨_, _, b, rfl, fun _ => ⟨rfl, hc, by have := h2; rw [hc] at this; omega, Own.lt hs rfl⟩, ?_⟩
    rw [hc] at hin ⊢
    refine (part_ok b 0 c pl last long h1 hl hin).mono ?_
    rintro e w' ⟨rfl, hb⟩
    refine ⟨_, _, rfl, hb, fun _ => ⟨rfl, by simp⟩, _, _, _, rfl⟩
  · rw [decide_eq_false hc, Bool.false_and] at hok
    subst hok
    refine ⟨a, c, 0, rfl, (fun h => by cases h), ?_⟩
    refine (part_bad k a pl.length c last long hp (by omega) hc).mono ?_
    rintro e w' ⟨rfl, rfl⟩
    exact ⟨0, .slice none 0 0, rfl, Below.refl _ _, (fun h => by cases h), _, _, _, rfl⟩
/-- what Read tells. -/
def ChO (w w' : World) (p2 r most : Nat) (T : ChT) (O : Nat → Prop) (e : Ending) : Prop := ∃ a l c b m d O1, e = .returned (.tuple #[.slice a l c, .slice b m d, .int .u16 (T.e : Int)]) ∧ Cs w w' p2 r most T.S T.A O O1 (.slice a l c) (.slice b m d) T.v T.ps
theorem row_slice {t sz n : Nat} {v : Value} {xs : List Value} (h : w.ownsRow 0 t sz v n xs) : ∃ a m c, v = .slice a m c := by
  rcases h.2 with ⟨rfl, _⟩ | ⟨g, cap, cur, rfl, _⟩
  · exact ⟨_, _, _, rfl⟩
  · exact ⟨_, _, _, rfl⟩
/-- the payload's part stays a source while the pages grow. -/
theorem part_row {w2 w3 w4 : World} {pl : List Int} {a3 : Option Addr} {c3 b3 long x : Nat} {vv vp : Value} {v : List Int} {ps : List Nat} (hs : Sl w2 (.slice a3 pl.length c3) pl) (hb : Below w2.heap.size w2 w3) (hc : Cs w0 w3 p2 r most S A O O1 vv vp v ps) (hg : (w3.alloc (.cells #[.int .u32 (x : Int)] 23)).grownBy w4 vp.ownBlock)
    (hk : a3 = some ⟨b3, 0, none⟩ ∧ pl.length = 4 + long ∧ 4 < c3 ∧ b3 < w2.heap.size) : Src Tryz.prog 1 22 (.slice (some ⟨b3, 4, none⟩) long (c3 - 4)) long ((pl.drop 4).map (Value.int .u8)) w4 := by
  obtain ⟨rfl, hl, hc4, hb3⟩ := hk
  have h1 : w4.heap[b3]? = w2.heap[b3]? := by
    obtain ⟨cur, g, hcur⟩ := Sl.type hs (k := b3) rfl
    have h3 : w3.heap[b3]? = w2.heap[b3]? := hb.block b3 hb3
    have hne : vp.ownBlock ≠ some b3 := fun e => by
      obtain ⟨c1, g1, h4⟩ := row_type hc.op e
      rw [h3, hcur] at h4
      simp at h4
    rw [hg.block b3 (by have := hb.size; simp; omega) (fun e => hne e.symm), Below.heap_alloc _ _ b3 (Nat.lt_of_lt_of_le hb3 hb.size), h3]
  have h2 : Sl w4 (.slice (some ⟨b3, 0, none⟩) pl.length c3) pl := hs.of_block fun k hk => by
    cases hk
    exact h1
  obtain ⟨a, c, e, q1, q2, q3, q4⟩ := Sl.shape h2
  cases e
  have h := Row.cut q4 4 c3 (by omega)
  rw [if_neg (by omega)] at h
  exact src_row w4 _ long (c3 - 4) _ (by simp; omega) (fun e => by cases e) (by simpa [Addr.add] using h)
set_option maxHeartbeats 3200000 in
set_option maxRecDepth 1000000 in
theorem oread_any (h : Qp w p2 r S most A O) (hA : A.length ≤ 1000) (hc : S.n1 + 20 ≤ 1000000) (first size : Nat) (hf : first < 4294967296) (hs : size < 4294967296) (T : ChT) (hT : (if needN size = 0 then ⟨[], [], 120, S, A⟩ else chn most size (needN size) (needN size) S A first [] []) = T) :
    Calls Tryz.prog 10 #[.pointer (some ⟨p2, 0, none⟩), .int .u32 (first : Int), .int .u32 (size : Int)] w fun e w' => ChO w w' p2 r most T O e := by
  have HC := hide (Cs.new h)
  have wz : IntKind.i64.wrap (size : Int) = (size : Int) := by rw [IntKind.wrap_i64]; omega
  by_cases h8 : 8192 < size
  · have d1 : ¬ (size : Int) ≤ 8192 := by omega
    have hn0 : needN size = 0 := by unfold needN; rw [if_neg (by omega)]
    rw [if_pos hn0] at hT
    subst hT
    clear h hA hc hn0
    go_enter Tryz.func10, Tryz.ntmps10
    go_wp2
    go_ret3
    exact ⟨_, _, _, _, _, _, O, rfl, HC.out⟩
  have d1 : (size : Int) ≤ 8192 := by omega
  have HN := hide (rneed_any (w := w) size (by omega))
  have hN9 : needN size ≤ 9 := by unfold needN; split <;> omega
  have hNs : needN size ≠ 0 → 1004 * (needN size - 1) + 1 ≤ size ∧ size ≤ 1004 * needN size := by unfold needN; split <;> omega
  generalize needN size = N at *
  by_cases hN0 : N = 0
  · subst hN0
    rw [if_pos rfl] at hT
    subst hT
    clear h hA hc hNs hN9
    go_enter Tryz.func10, Tryz.ntmps10
    go_wp2_with (go_at_call 24; refine HN.out.mono ?_; rintro e w1 ⟨rfl, rfl⟩)
    go_ret3
    exact ⟨_, _, _, _, _, _, O, rfl, HC.out⟩
  have hNs := hNs hN0
  rw [if_neg hN0] at hT
  have HT := hide hT
  have e0 : ((N : Int) == 0) = false := by simp; omega
  have Hh := hide (And.intro hA hc)
  clear h hA hc hT
  go_enter Tryz.func10, Tryz.ntmps10
  go_wp2_with (go_at_call 24; refine HN.out.mono ?_; rintro e w1 ⟨rfl, rfl⟩)
  go_loopw [10, 11, 12, 13] (fun uv up ua ui wr => ∃ (i a : Nat) (S1 : DS) (A1 : List Pge) (v : List Int) (ps : List Nat) (O1 : Nat → Prop), i ≤ N ∧ ui = .int .i64 (i : Int) ∧ ua = .int .u32 (a : Int) ∧ a < 4294967296 ∧ Hid (Cs w1 wr p2 r most S1 A1 O O1 uv up v ps) ∧ Hid (chn most size N (N - i) S1 A1 a v ps = T) ∧ Hid (S1.n1 ≤ S.n1 + i ∧ A1.length ≤ A.length + i ∧ v.length ≤ 1008 * i ∧ ps.length ≤ i)) (fun _ _ _ ui _ => N - (intOf ui).toNat)
  case atStart => exact ⟨0, first, S, A, [], [], O, Nat.zero_le _, rfl, rfl, hf, HC, HT, by simp [Hid]⟩
  case round =>
    obtain ⟨i, a, S1, A1, v, ps, O1, hi, rfl, rfl, ha, HCs, HCh, HB⟩ := hrel
    by_cases hlt : i < N
    · have d2 : (i : Int) < (N : Int) := by omega
      obtain ⟨j, hj⟩ : ∃ j, N - i = j + 1 := ⟨N - i - 1, by omega⟩
      have HQ := hide (q_rdo a ha HCs.out.q (by have := Hh.out.1; have := HB.out.2.1; omega) (by have := Hh.out.2; have := HB.out.1; omega))
      have hmore := rdo_more most S1 A1 a
      have hch := HCh.out
      rw [hj, chn] at hch
      have HPl9 := hide (rdo_pl HCs.out.q a)
      obtain ⟨R, hR⟩ : ∃ R, R = rdo most S1 A1 a := ⟨_, rfl⟩
      rw [← hR] at HQ hmore hch HPl9
      clear hR
      obtain ⟨K, E, pl, S2, A2⟩ := R
      dsimp only at HQ hmore hch HPl9
      have HMo := hide hmore
      have HCh2 := hide hch
      clear hmore hch
      by_cases hE : E = 0
      · have e1 : ((E : Int) == 0) = true := by rw [hE]; rfl
        have HE := hide hE
        clear hE
        have w3 : IntKind.i64.wrap (1004 * (i : Int)) = 1004 * (i : Int) := by rw [IntKind.wrap_i64]; omega
        obtain ⟨L0, HL0⟩ : ∃ L0 : Nat, Hid (L0 = size - 1004 * i) := ⟨_, rfl⟩
        have w4 : IntKind.i64.wrap ((size : Int) - 1004 * (i : Int)) = (L0 : Int) := by rw [IntKind.wrap_i64]; have := HL0.out; omega
        have w5 : IntKind.i64.wrap ((N : Int) - 1) = (N : Int) - 1 := by rw [IntKind.wrap_i64]; omega
        obtain ⟨last, HLa⟩ : ∃ last : Bool, Hid (last = decide (j = 0)) := ⟨_, rfl⟩
        have e3 : ((i : Int) == (N : Int) - 1) = last := by
          rw [HLa.out]
          by_cases h0 : j = 0
          · rw [decide_eq_true h0]; simp; omega
          · rw [decide_eq_false h0]; simp; omega
        obtain ⟨long, HLo⟩ : ∃ long : Nat, Hid (long = min 1004 L0) := ⟨_, rfl⟩
        have HLg : Hid (lng size N j = long) := by rw [Hid, HLo.out, HL0.out]; unfold lng; congr 2; omega
        have HL1 : Hid (1 ≤ long ∧ long ≤ 1004) := by have h1 := HLo.out; have h2 := HL0.out; rw [Hid]; omega
        rw [if_neg (by rw [HE.out]; simp), HLg.out, ← HLa.out] at HCh2
        obtain ⟨ok, HOk⟩ : ∃ ok : Bool, Hid (ok = (decide (K = 3 ∧ pl.length = 4 + long) && prtOk pl last)) := ⟨_, rfl⟩
        have HYes : Hid (ok = true → chn most size N j S2 A2 (if j = 0 then 0 else nx4 pl) (v ++ pl.drop 4) (ps ++ [a]) = T) := hide fun h => by
          have h1 := HOk.out
          rw [h] at h1
          simp only [Bool.true_eq, Bool.and_eq_true, decide_eq_true_eq] at h1
          have h2 := HCh2.out
          rwa [if_pos h1] at h2
        have HNo : Hid (ok = false → (⟨[], [], 120, S2, A2⟩ : ChT) = T) := hide fun h => by
          have h1 := HOk.out
          rw [h] at h1
          have h2 := HCh2.out
          rwa [if_neg (fun hh => by simp [hh.1, hh.2] at h1)] at h2
        clear HCh2
        have HU1 := hide (show Tryz.prog.underlying 22 = some (.slice 5) by kernel_rfl)
        have HU2 := hide (show Tryz.prog.underlying 39 = some (.slice 23) by kernel_rfl)
        obtain ⟨i0, hi0, hz0, hz1, hz2⟩ := info_parts infoU8
        obtain ⟨j0, ki, kz0, kz1, kz2⟩ := info_parts infoU32
        have HI := hide hi
        have HJ := hide hj
        cases ok with
        | false =>
          have HTe := hide (HNo.out rfl)
          clear HNo HYes
          by_cases hlt4 : L0 < 1004
          · have d4 : (L0 : Int) < 1004 := by omega
            have hlo : long = L0 := by have := HLo.out; omega
            subst hlo
            clear hlt4
            go_wp2_with (first
              | (go_at_call 25; refine HQ.out.mono ?_; rintro e w2 ⟨a2, l2, c2, O2, rfl, f1, f2, f3⟩; have HCm := hide (HCs.out.move f2 f3); obtain ⟨a3, c3, b3, ev, hk, hP⟩ := part_any K pl f1.1 f1.2 (by have := HPl9.out; omega) last long HL1.out.1 HL1.out.2 false HOk.out; cases ev;  have HP := hide hP; have HSl := hide f1.1; have HBy := hide f1.2; clear hk hP f1 f2 f3)
              | (go_at_call 26; refine HP.out.mono ?_; rintro e w3 ⟨x, sl, rfl, hb3, -, sa, sn, sc, rfl⟩; have HB3 := hide hb3; clear hb3))
            go_ret3
            have hT := HTe.out
            subst hT
            exact ⟨_, _, _, _, _, _, O2, rfl, (HCm.out.below HB3.out).nil⟩
          · have d4 : ¬ (L0 : Int) < 1004 := by omega
            have hlo : long = 1004 := by have := HLo.out; omega
            subst hlo
            clear hlt4
            go_wp2_with (first
              | (go_at_call 25; refine HQ.out.mono ?_; rintro e w2 ⟨a2, l2, c2, O2, rfl, f1, f2, f3⟩; have HCm := hide (HCs.out.move f2 f3); obtain ⟨a3, c3, b3, ev, hk, hP⟩ := part_any K pl f1.1 f1.2 (by have := HPl9.out; omega) last 1004 HL1.out.1 HL1.out.2 false HOk.out; rw [show ((1004 : Nat) : Int) = 1004 from rfl] at hP; cases ev;  have HP := hide hP; have HSl := hide f1.1; have HBy := hide f1.2; clear hk hP f1 f2 f3)
              | (go_at_call 26; refine HP.out.mono ?_; rintro e w3 ⟨x, sl, rfl, hb3, -, sa, sn, sc, rfl⟩; have HB3 := hide hb3; clear hb3))
            go_ret3
            have hT := HTe.out
            subst hT
            exact ⟨_, _, _, _, _, _, O2, rfl, (HCm.out.below HB3.out).nil⟩
        | true =>
          have HTe := hide (HYes.out rfl)
          clear HNo HYes
          have HB9 : Hid (((ps.map (fun n : Nat => Value.int .u32 (n : Int))).length + 1) * j0.bytes ≤ 140737488355328) := by rw [Hid, kz2, List.length_map]; have := HB.out; omega
          have HB8 : Hid ((ps.map (fun n : Nat => Value.int .u32 (n : Int))).length + 1 ≤ 140737488355328) := by rw [Hid, List.length_map]; have := HB.out; omega
          have HB7 : Hid (v.length + long ≤ 140737488355328) := by have h1 := HB.out; have h2 := HL1.out; rw [Hid]; omega
          by_cases hlt4 : L0 < 1004
          · have d4 : (L0 : Int) < 1004 := by omega
            have hlo : long = L0 := by have := HLo.out; omega
            subst hlo
            clear hlt4
            have M1 := hide trivial
            go_wp2_with (first
              | (go_at_call 25; refine HQ.out.mono ?_; rintro e w2 ⟨a2, l2, c2, O2, rfl, f1, f2, f3⟩; have HCm := hide (HCs.out.move f2 f3); obtain ⟨a3, c3, b3, ev, hk, hP⟩ := part_any K pl f1.1 f1.2 (by have := HPl9.out; omega) last long HL1.out.1 HL1.out.2 true HOk.out; cases ev; have HK := hide (hk rfl); have HP := hide hP; have HSl := hide f1.1; have HBy := hide f1.2; clear hk hP f1 f2 f3)
              | (go_at_call 26; refine HP.out.mono ?_; rintro e w3 ⟨x, sl, rfl, hb3, g3, sa, sn, sc, rfl⟩; have HB3 := hide hb3; obtain ⟨hx, hsl⟩ := g3 rfl; cases hsl; have HX := hide hx; clear hb3 g3 hx)
              | (at_builtin; have hmk := M1; clear hmk M1; have HC3 := hide (HCm.out.below HB3.out); have HS2 := hide (Bo.src_laid (P := Tryz.prog) w3 (.int .u32 (a : Int)) HU2.out rfl); have HO2 : Hid ((w3.alloc (.cells #[.int .u32 (a : Int)] 23)).ownsRow 0 23 1 u11 (ps.map (fun n : Nat => Value.int .u32 (n : Int))).length (ps.map (fun n : Nat => Value.int .u32 (n : Int)))) := row_of HC3.out.op (fun k hk => Below.heap_alloc _ _ k (HC3.out.op.lt k hk).2); refine Bo.wpList_append_one (by rfl) _ _ 39 39 23 (by rfl) j0 (.int .u32 0) HU2.out ki kz0 kz1 rfl u11 _ (by rfl) HO2.out _ 1 _ (by rfl) HS2.out HB9.out HB8.out ?_; intro u2 w4 g1 g2 g3 _; have HC4 := hide (HC3.out.page g1 g2 g3); have HR4 := hide (part_row HSl.out HB3.out HC3.out g2 HK.out); clear g1 g2 g3; have M2 := hide trivial)
              | (at_builtin; have hmk := M2; clear hmk M2; refine wpList_append_src (by rfl) _ _ 22 22 (by rfl) i0 HU1.out hi0 hz0 hz1 hz2 u10 _ (by rfl) HC4.out.ov _ long _ (by rfl) HR4.out HB7.out ?_; intro u3 w5 g1 g2 g3; have HC5 := hide (HC4.out.part g1 g2 g3); clear g1 g2 g3))
            go_roundw
            case rel =>
              have hx4 : (nx4 pl) ≤ 4294967295 := (nx4_le pl (by rw [HK.out.2.1]; omega) HBy.out).2
              have hxx : (if j = 0 then 0 else nx4 pl) = x := by
                rw [HX.out, HLa.out]
                by_cases h0 : j = 0
                · simp [h0]
                · simp [h0]
              have hTT := HTe.out
              rw [hxx] at hTT
              have hjj : N - (i + 1) = j := by have := HJ.out; omega
              have hMo := HMo.out
              have hBB := HB.out
              have hKl := HK.out.2.1
              have hl1 := HL1.out
              have hxb : x < 4294967296 := by rw [← hxx]; split <;> omega
              refine ⟨i + 1, x, S2, A2, v ++ pl.drop 4, ps ++ [a], O2, by omega, by simp, rfl, hxb, HC5.out, ?_, ?_⟩
              · rw [Hid, hjj]; exact hTT
              · refine ⟨?_, by omega, ?_, by simp; omega⟩
                · have := hMo.1; have := hBB.1; simp only [Int.natCast_add, Int.cast_ofNat_Int]; omega
                · rw [List.length_append, List.length_drop]; omega
            case measure => simp [intOf]; omega
          · have d4 : ¬ (L0 : Int) < 1004 := by omega
            have hlo : long = 1004 := by have := HLo.out; omega
            subst hlo
            clear hlt4
            have M1 := hide trivial
            go_wp2_with (first
              | (go_at_call 25; refine HQ.out.mono ?_; rintro e w2 ⟨a2, l2, c2, O2, rfl, f1, f2, f3⟩; have HCm := hide (HCs.out.move f2 f3); obtain ⟨a3, c3, b3, ev, hk, hP⟩ := part_any K pl f1.1 f1.2 (by have := HPl9.out; omega) last 1004 HL1.out.1 HL1.out.2 true HOk.out; rw [show ((1004 : Nat) : Int) = 1004 from rfl] at hP; cases ev; have HK := hide (hk rfl); have HP := hide hP; have HSl := hide f1.1; have HBy := hide f1.2; clear hk hP f1 f2 f3)
              | (go_at_call 26; refine HP.out.mono ?_; rintro e w3 ⟨x, sl, rfl, hb3, g3, sa, sn, sc, rfl⟩; have HB3 := hide hb3; obtain ⟨hx, hsl⟩ := g3 rfl; cases hsl; have HX := hide hx; clear hb3 g3 hx)
              | (at_builtin; have hmk := M1; clear hmk M1; have HC3 := hide (HCm.out.below HB3.out); have HS2 := hide (Bo.src_laid (P := Tryz.prog) w3 (.int .u32 (a : Int)) HU2.out rfl); have HO2 : Hid ((w3.alloc (.cells #[.int .u32 (a : Int)] 23)).ownsRow 0 23 1 u11 (ps.map (fun n : Nat => Value.int .u32 (n : Int))).length (ps.map (fun n : Nat => Value.int .u32 (n : Int)))) := row_of HC3.out.op (fun k hk => Below.heap_alloc _ _ k (HC3.out.op.lt k hk).2); refine Bo.wpList_append_one (by rfl) _ _ 39 39 23 (by rfl) j0 (.int .u32 0) HU2.out ki kz0 kz1 rfl u11 _ (by rfl) HO2.out _ 1 _ (by rfl) HS2.out HB9.out HB8.out ?_; intro u2 w4 g1 g2 g3 _; have HC4 := hide (HC3.out.page g1 g2 g3); have HR4 := hide (part_row HSl.out HB3.out HC3.out g2 HK.out); clear g1 g2 g3; have M2 := hide trivial)
              | (at_builtin; have hmk := M2; clear hmk M2; refine wpList_append_src (by rfl) _ _ 22 22 (by rfl) i0 HU1.out hi0 hz0 hz1 hz2 u10 _ (by rfl) HC4.out.ov _ 1004 _ (by rfl) HR4.out HB7.out ?_; intro u3 w5 g1 g2 g3; have HC5 := hide (HC4.out.part g1 g2 g3); clear g1 g2 g3))
            go_roundw
            case rel =>
              have hx4 : (nx4 pl) ≤ 4294967295 := (nx4_le pl (by rw [HK.out.2.1]; omega) HBy.out).2
              have hxx : (if j = 0 then 0 else nx4 pl) = x := by
                rw [HX.out, HLa.out]
                by_cases h0 : j = 0
                · simp [h0]
                · simp [h0]
              have hTT := HTe.out
              rw [hxx] at hTT
              have hjj : N - (i + 1) = j := by have := HJ.out; omega
              have hMo := HMo.out
              have hBB := HB.out
              have hKl := HK.out.2.1
              have hl1 := HL1.out
              have hxb : x < 4294967296 := by rw [← hxx]; split <;> omega
              refine ⟨i + 1, x, S2, A2, v ++ pl.drop 4, ps ++ [a], O2, by omega, by simp, rfl, hxb, HC5.out, ?_, ?_⟩
              · rw [Hid, hjj]; exact hTT
              · refine ⟨?_, by omega, ?_, by simp; omega⟩
                · have := hMo.1; have := hBB.1; simp only [Int.natCast_add, Int.cast_ofNat_Int]; omega
                · rw [List.length_append, List.length_drop]; omega
            case measure => simp [intOf]; omega
      · have e1 : ((E : Int) == 0) = false := by simp; omega
        rw [if_pos hE] at HCh2
        clear hE
        go_wp2_with (go_at_call 25; refine HQ.out.mono ?_; rintro e w2 ⟨a2, l2, c2, O2, rfl, f1, f2, f3⟩; have F2 := hide f2; have F3 := hide f3; clear f1 f2 f3)
        go_ret3
        have hT := HCh2.out
        subst hT
        exact ⟨_, _, _, _, _, _, O2, rfl, (HCs.out.move F2.out F3.out).nil⟩
    · have d2 : ¬ (i : Int) < (N : Int) := by omega
      have hch := HCh.out
      rw [show N - i = 0 by omega, chn] at hch
      subst hch
      obtain ⟨va, vl, vc, rfl, -⟩ := Own.shape2 HCs.out.ov
      obtain ⟨pa, pl, pc, rfl⟩ : ∃ a n c, u11 = .slice a n c := by
        rcases HCs.out.op.2 with ⟨e, _⟩ | ⟨g, cap, cur, e, _⟩ <;> exact ⟨_, _, _, e⟩
      go_wp2
      go_ret3
      exact ⟨_, _, _, _, _, _, O1, rfl, HCs.out⟩
end Go.Proofs.YtlmofgfkclfgeaaGreat
