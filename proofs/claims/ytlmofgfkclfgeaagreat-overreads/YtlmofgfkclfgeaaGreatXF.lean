/- Trips and faults of the disk; a read that is refused. -/
import Derived.Test.YtlmofgfkclfgeaaGreatEB
import Derived.Test.YtlmofgfkclfgeaaGreatDT
import Derived.Test.YtlmofgfkclfgeaaGreatRA
namespace Go.Proofs.YtlmofgfkclfgeaaGreat
open Go.RowKit Go.Maps
set_option linter.unusedVariables false

/-- a disk with a trip. -/
def DS.trip (S : DS) (n : Int) : DS := { S with ts := true, tl := n }
def DS.fl1 (S : DS) (n : Int) : DS := { S with s1 := true, l1 := n }
def DS.fl2 (S : DS) (n : Int) : DS := { S with s2 := true, l2 := n }
def DS.fl3 (S : DS) (n : Int) : DS := { S with s3 := true, l3 := n }
/-- a read of a page that is not there. -/
def DS.rno (S : DS) : Nat := if S.er S.s1 S.l1 ≠ 0 then S.er S.s1 S.l1 else 2
set_option maxHeartbeats 1600000 in
set_option maxRecDepth 1000000 in
theorem read_no (p q : Nat) (O : Nat → Prop) (S : DS) (pg : Int) (w : World) (h : DkAt w p q S O) (hbad : ¬ (0 ≤ pg ∧ pg < ((S.ls.length / 8 : Nat) : Int))) (hn : S.n1 + 1 ≤ 1000000) :
    Calls Tryz.prog 77 #[.pointer (some ⟨p, 0, none⟩), .int .i64 pg] w fun e w' => e = .returned (.tuple #[.slice none 0 0, .int .u16 (S.rno : Int)]) ∧ DkAt w' p q (S.be S.op1) O ∧ Go1 O w O w' := by
  obtain ⟨vw, m, hd, ho⟩ := h
  have hlt : ∀ k, Ow p q vw m k → k < w.heap.size := hd.lt
  have nO : ∀ k, w.heap.size ≤ k → ¬ Ow p q vw m k := fun k hk h => by have := hlt k h; omega
  obtain ⟨W3, hW3⟩ : ∃ W3, W3 = ((w.alloc (.cells #[.pointer (some ⟨p, 0, none⟩)] 25)).alloc (.cells #[.int .i64 pg] 3)).alloc (.cells #[.slice none 0 0] 22) := ⟨_, rfl⟩
  have s1 := size_al w (.cells #[.pointer (some ⟨p, 0, none⟩)] 25)
  have s2 := size_al (w.alloc (.cells #[.pointer (some ⟨p, 0, none⟩)] 25)) (.cells #[.int .i64 pg] 3)
  have s3 : W3.heap.size = w.heap.size + 3 := by rw [hW3, size_al, s2, s1]
  have hb3 : Below w.heap.size w W3 := by
    rw [hW3]
    exact (below_alloc w _).trans (((below_alloc _ _).mono (by omega)).trans ((below_alloc _ _).mono (by omega)))
  have c0 : W3.cell? ⟨w.heap.size, 0, none⟩ = some (.pointer (some ⟨p, 0, none⟩)) := by rw [hW3]; exact cell_old (cell_old (cell_new _ _ _) _) _
  have c1 : W3.cell? ⟨w.heap.size + 1, 0, none⟩ = some (.int .i64 pg) := by rw [hW3]; have := cell_old (cell_new (w.alloc (.cells #[.pointer (some ⟨p, 0, none⟩)] 25)) (.int .i64 pg) 3) (.cells #[.slice none 0 0] 22); rwa [s1] at this
  have c2 : W3.cell? ⟨w.heap.size + 2, 0, none⟩ = some (.slice none 0 0) := by rw [hW3]; have := cell_new ((w.alloc (.cells #[.pointer (some ⟨p, 0, none⟩)] 25)).alloc (.cells #[.int .i64 pg] 3)) (.slice none 0 0) 22; rwa [s2, s1] at this
  have HOp := hide (operate1 p q vw m S W3 (.pointer (some ⟨w.heap.size, 0, none⟩)) (.pointer (some ⟨w.heap.size + 1, 0, none⟩)) (.pointer (some ⟨w.heap.size + 2, 0, none⟩))
    (fun x w' => x = (S.rno : Int) ∧ w'.cell? ⟨w.heap.size + 2, 0, none⟩ = some (.slice none 0 0) ∧ DkAt w' p q (S.be S.op1) O ∧ Go1 O w O w') (hd.below hb3) hn
    (fun he W hdW hm hs => by
      have hg0 : Go1 (Ow p q vw m) w (Ow p q vw m) W := (Go1.of_below hb3).trans (Go1.of_mv hm (.inl rfl))
      have hm' : Mv (Ow p q vw m) W3 W := (Go1.of_mv hm (.inl rfl)).mv
      have k2 := hm'.cell c2 (nO _ (by omega))
      refine (reads_range p q vw m S.op1 _ _ _ pg W hdW (hm'.cell c0 (nO _ (Nat.le_refl _))) (hm'.cell c1 (nO _ (by omega))) hbad).mono ?_
      rintro e w' ⟨rfl, hb⟩
      refine ⟨2, rfl, by rw [DS.rno, if_neg (by omega)]; rfl, (hb.cell (p := ⟨w.heap.size + 2, 0, none⟩) (World.block_lt_of_cell? W _ k2)).trans k2, ?_⟩
      rw [be_zero he]
      exact ⟨⟨vw, m, hdW.below hb, ho⟩, Go1.ofO (hg0.trans (Go1.of_below hb)) ho ho⟩)
    (fun he W hdW hm hs => by
      have hg0 : Go1 (Ow p q vw m) w (Ow p q vw m) W := (Go1.of_below hb3).trans (Go1.of_mv hm (.inl rfl))
      have hm' : Mv (Ow p q vw m) W3 W := (Go1.of_mv hm (.inl rfl)).mv
      exact ⟨by rw [DS.rno, if_pos he], hm'.cell c2 (nO _ (by omega)), ⟨vw, m, hdW, ho⟩, Go1.ofO hg0 ho ho⟩))
  clear hd ho hlt nO hbad hn hb3 c1 c2 s1 s2 s3
  have hmf' := hmf
  have hz := zero63
  subst hW3
  go_enter Tryz.func77, Tryz.ntmps77
  go_wp2_with fail
  refine HOp.out.mono ?_
  rintro e w' ⟨x, rfl, rfl, hc, hh⟩
  have HH := hide hh
  clear hh
  go_wp2
  go_ret2
  exact ⟨rfl, HH.out⟩
end Go.Proofs.YtlmofgfkclfgeaaGreat
/- Trips and faults of the document's own disk. -/
namespace Go.Proofs.YtlmofgfkclfgeaaGreat
open Go.RowKit Go.Maps
set_option linter.unusedVariables false
variable {w w' : World} {p f : Nat} {vl vc : Value} {Ls Cs : List Value} {S S' : DS}

theorem ft_true (l : Int) : ft true l = l := rfl
end Go.Proofs.YtlmofgfkclfgeaaGreat
/- A sector as it was written last, of the document's own disk. -/
namespace Go.Proofs.YtlmofgfkclfgeaaGreat
open Go.RowKit Go.Maps
set_option linter.unusedVariables false
variable {w w' : World} {p f : Nat} {vl vc : Value} {Ls Cs : List Value} {S S' : DS}

theorem row_at {t sz : Nat} {v : Value} {n : Nat} {xs : List Value} (h : w.ownsRow 0 t sz v n xs) (hn : 0 < n) : ∃ g cap, v = .slice (some ⟨g, 0, none⟩) n cap ∧ n ≤ cap ∧ cap ≤ maxLen ∧ g < w.heap.size ∧ Hid (∀ i x, xs[i]? = some x → w.cell? ⟨g, i, none⟩ = some x) ∧ Hid (∀ i, w.frozen? ⟨g, i, none⟩ = false) := by
  rcases h.2 with ⟨rfl, h0⟩ | ⟨g, cap, cur, rfl, _, hh, h1, h2, h3, h4⟩
  · omega
  · refine ⟨g, cap, rfl, h1, h2, lt_of_block hh, fun i x hx => ?_, fun i => by simp [World.frozen?, hh]⟩
    rw [← h4, List.getElem?_take] at hx
    split at hx
    · simp [World.cell?, hh]
      simpa using hx
    · simp at hx
/-- the slice of the cache, also where it is empty. -/
theorem row_len {t sz : Nat} {v : Value} {n : Nat} {xs : List Value} (h : w.ownsRow 0 t sz v n xs) : ∃ a cap, v = .slice a n cap := by
  rcases h.2 with ⟨rfl, rfl⟩ | ⟨g, cap, cur, rfl, _⟩
  · exact ⟨_, _, rfl⟩
  · exact ⟨_, _, rfl⟩
/-- what the first writes of the cache make of a sector. -/
def nw (S : DS) (n k : Nat) : List Int := newest { S with ws := S.ws.take k } n
theorem nw_zero (S : DS) (n : Nat) : nw S n 0 = S.ls.getD n [] := by simp [nw, newest, lastAt]
theorem nw_all (S : DS) (n : Nat) : nw S n S.ws.length = newest S n := by rw [nw, List.take_length]
theorem getD_take {α : Type} (L : List α) (k i : Nat) (d : α) (h : i < k) : (L.take k).getD i d = L.getD i d := by simp [List.getD_eq_getElem?_getD, h]
theorem nw_succ (S : DS) (n k : Nat) (x : Nat × List Int) (hx : S.ws[k]? = some x) : nw S n (k + 1) = if x.1 = n then x.2 else nw S n k := by
  have hk := (List.getElem?_eq_some_iff.1 hx).1
  have e : S.ws.take (k + 1) = S.ws.take k ++ [x] := by rw [List.take_add_one, hx]; rfl
  unfold nw newest
  simp only
  rw [e, lastAt_snoc, List.length_take, Nat.min_eq_left (by omega)]
  by_cases hn : x.1 = n
  · rw [if_pos hn, if_pos hn]
    simp only
    rw [← e, getD_take _ _ _ _ (by omega), List.getD_eq_getElem?_getD, hx]; rfl
  · rw [if_neg hn, if_neg hn]
    cases hl : lastAt (S.ws.take k) n with
    | none => rfl
    | some i =>
      have hi := (lastAt_some hl).1
      simp only
      rw [List.getD_eq_getElem?_getD, List.getD_eq_getElem?_getD, List.getElem?_append_left hi]
set_option maxHeartbeats 1600000 in
set_option maxRecDepth 1000000 in
theorem rsector_any (h : RD w p vl Ls vc Cs f S) (n : Nat) (hn : n < S.ls.length) :
    Calls Tryz.prog 71 #[.pointer (some ⟨p, 0, none⟩), .int .i64 (n : Int)] w fun e w' => ∃ v, e = .returned v ∧ Sl w v (newest S n) ∧ w' = w := by
  obtain ⟨N, HN, hNm⟩ : ∃ N, Hid (N = S.ls.length) ∧ N ≤ 131072 := ⟨_, rfl, h.good.most⟩
  obtain ⟨M, HM, hMm⟩ : ∃ M, Hid (M = S.ws.length) ∧ M ≤ 1000000 := ⟨_, rfl, h.good.few⟩
  have hnN : n < N := by rw [HN.out]; exact hn
  have HH := hide h
  have HX := hide h.good.ws
  obtain ⟨g, cap, hvl, hc1, hc2, -, HL, -⟩ := row_at h.las (by omega)
  obtain ⟨ca, cc, hvc⟩ := row_len h.cac
  rw [← HN.out] at hvl
  rw [← HM.out] at hvc
  have c0 := h.c 0 vl rfl
  have c1 := h.c 1 vc rfl
  rw [hvl] at c0
  rw [hvc] at c1
  have hLn : n < Ls.length := by rw [h.lle]; exact hn
  obtain ⟨v0, hv0⟩ : ∃ v, Ls[n]? = some v := ⟨_, List.getElem?_eq_getElem hLn⟩
  have l0 := HL.out n v0 hv0
  have HS0 : Hid (Sl w v0 (nw S n 0)) := by
    rw [nw_zero, List.getD_eq_getElem?_getD, List.getElem?_eq_getElem hn]
    exact h.lsl n _ v0 (List.getElem?_eq_getElem hn) hv0
  have HC : Hid (∀ k, k < M → ∃ b x v, ca = some ⟨b, 0, none⟩ ∧ w.cell? ⟨b, k * 2, none⟩ = some (.int .i64 (x.1 : Int)) ∧ w.cell? ⟨b, k * 2 + 1, none⟩ = some v ∧ S.ws[k]? = some x ∧ Sl w v x.2) := by
    intro k hk
    have hk' : k < S.ws.length := by rw [← HM.out]; exact hk
    obtain ⟨b, cap', e1, -, -, -, HR, -⟩ := row_at h.cac (by omega)
    have hC : k < Cs.length := by rw [h.cle]; exact hk'
    have hx := List.getElem?_eq_getElem hk'
    have hv := List.getElem?_eq_getElem hC
    have ha := rwc_at S.ws Cs k _ _ hx hv
    rw [hvc] at e1
    injection e1 with e1
    exact ⟨b, _, _, e1, HR.out _ _ ha.1, HR.out _ _ ha.2, hx, h.csl k _ _ hx hv⟩
  clear h hvl hvc HL hLn hv0 HX
  go_enter Tryz.func71, Tryz.ntmps71
  go_wp2
  clear c0 l0
  go_loopw [6, 5] (fun i b wr' => ∃ k : Nat, k ≤ M ∧ i = .int .i64 (k : Int) ∧ Sl w b (nw S n k) ∧ wr' = w) (fun i _ _ => M - (intOf i).toNat)
  case atStart => exact ⟨0, Nat.zero_le _, rfl, HS0.out, rfl⟩
  case round =>
    obtain ⟨k, hk, rfl, hsl, rfl⟩ := hrel
    have HSl := hide hsl
    clear hsl
    by_cases hlt : k < M
    · obtain ⟨b, x, v, rfl, d0, d1, hx, hv⟩ := HC.out k hlt
      have HX := hide hx
      have HV := hide hv
      have hnb : decide (k < M) = true := by simp [hlt]
      clear hx hv
      by_cases hat : x.1 = n
      · have he : (((x.1 : Nat) : Int) == (n : Int)) = true := by simp [hat]
        have HE : Hid (Sl wr v (nw S n (k + 1))) := by rw [nw_succ S n k x HX.out, if_pos hat]; exact HV.out
        clear hat
        go_wp2
        exact ⟨⟨k + 1, by omega, by simp, HE.out, trivial⟩, by simp [intOf]; omega⟩
      · have he : (((x.1 : Nat) : Int) == (n : Int)) = false := by simp; omega
        have HE : Hid (Sl wr u5 (nw S n (k + 1))) := by rw [nw_succ S n k x HX.out, if_neg hat]; exact HSl.out
        clear hat
        go_wp2
        exact ⟨⟨k + 1, by omega, by simp, HE.out, trivial⟩, by simp [intOf]; omega⟩
    · have hnb : decide (k < M) = false := by simp [hlt]
      have HE : Hid (Sl wr u5 (newest S n)) := by rw [← nw_all, ← HM.out, show M = k by omega]; exact HSl.out
      go_wp2
      go_ret
      exact ⟨_, rfl, HE.out, rfl⟩
end Go.Proofs.YtlmofgfkclfgeaaGreat
/- Read, of the document's own disk. -/
namespace Go.Proofs.YtlmofgfkclfgeaaGreat
open Go.RowKit Go.Maps
set_option linter.unusedVariables false
variable {w w' : World} {p f : Nat} {vl vc : Value} {Ls Cs : List Value} {S S' : DS}

theorem Mv.on {O : Nat → Prop} {w w1 w2 : World} (h : Mv O w w1) (hb : Below w1.heap.size w1 w2) : Mv O w w2 := ⟨hb.os.trans h.os, hb.tape.trans h.tape, hb.output.trans h.output, Nat.le_trans h.size hb.size, fun k hk hn => (hb.block k (Nat.lt_of_lt_of_le hk h.size)).trans (h.block k hk hn)⟩
theorem Sl.src {v : Value} {zs : List Int} (h : Sl w v zs) : Src Tryz.prog 1 22 v zs.length (zs.map (Value.int .u8)) w := by
  obtain ⟨a, c, rfl, h1, h2, h3, h4⟩ := h.shape
  exact src_row w a _ c zs rfl h3 h4
set_option maxHeartbeats 800000 in
set_option maxRecDepth 1000000 in
theorem rpages_any (h : RD w p vl Ls vc Cs f S) : Calls Tryz.prog 57 #[.pointer (some ⟨p, 0, none⟩)] w fun e w' => e = .returned (.int .i64 ((S.ls.length / 8 : Nat) : Int)) ∧ w' = w := by
  obtain ⟨N, HN, hNm⟩ : ∃ N, Hid (N = S.ls.length) ∧ N ≤ 131072 := ⟨_, rfl, h.good.most⟩
  obtain ⟨ca, cc, hvl⟩ := row_len h.las
  rw [← HN.out] at hvl ⊢
  have c0 := h.c 0 vl rfl
  rw [hvl] at c0
  clear h hvl
  go_enter Tryz.func57, Tryz.ntmps57
  go_wp2
  go_ret
  exact ⟨rfl, rfl⟩
set_option maxHeartbeats 1600000 in
set_option maxRecDepth 1000000 in
theorem rread_er (h : RD w p vl Ls vc Cs f S) (pg : Int) (hn : S.n1 + 1 ≤ 1000000) (he : S.er S.s1 S.l1 ≠ 0) :
    Calls Tryz.prog 60 #[.pointer (some ⟨p, 0, none⟩), .int .i64 pg] w fun e w' => e = .returned (.tuple #[.slice none 0 0, .int .u16 (S.er S.s1 S.l1 : Int)]) ∧ RD w' p vl Ls vc Cs f (S.be S.op1) ∧ Mv (fun k => k = p ∨ k = f) w w' := by
  have HB := hide (begins1 h hn)
  obtain ⟨r, HR⟩ : ∃ r, Hid (r = S.er S.s1 S.l1) := ⟨_, rfl⟩
  rw [← HR.out] at HB he ⊢
  have he' : ((r : Int) == 0) = false := by simp; omega
  have hz := zero63
  clear h hn he
  go_enter Tryz.func60, Tryz.ntmps60
  go_wp2_with fail
  refine HB.out.mono ?_
  rintro e w' ⟨rfl, hh⟩
  have HH := hide hh
  clear hh
  go_wp2
  go_ret2
  exact ⟨rfl, HH.out⟩
set_option maxHeartbeats 1600000 in
set_option maxRecDepth 1000000 in
theorem rread_no (h : RD w p vl Ls vc Cs f S) (pg : Int) (hn : S.n1 + 1 ≤ 1000000) (he : S.er S.s1 S.l1 = 0) (hbad : ¬ (0 ≤ pg ∧ pg < ((S.ls.length / 8 : Nat) : Int))) :
    Calls Tryz.prog 60 #[.pointer (some ⟨p, 0, none⟩), .int .i64 pg] w fun e w' => e = .returned (.tuple #[.slice none 0 0, .int .u16 2]) ∧ RD w' p vl Ls vc Cs f (S.be S.op1) ∧ Mv (fun k => k = p ∨ k = f) w w' := by
  have HB := hide (begins1 h hn)
  rw [he] at HB
  have HL : Hid ((S.be S.op1).ls = S.ls) := by rw [be_zero he]; rfl
  have hz := zero63
  clear h hn he
  by_cases h0 : pg < 0
  · have hd0 : decide (pg < 0) = true := by simp [h0]
    clear hbad h0
    go_enter Tryz.func60, Tryz.ntmps60
    go_wp2_with fail
    refine HB.out.mono ?_
    rintro e w' ⟨rfl, hh⟩
    have HH := hide hh
    clear hh
    go_wp2
    go_ret2
    exact ⟨rfl, HH.out⟩
  · have hd0 : decide (pg < 0) = false := by simp [h0]
    obtain ⟨N, HN⟩ : ∃ N, Hid (N = S.ls.length / 8) := ⟨_, rfl⟩
    have hd1 : decide ((N : Int) ≤ pg) = true := by rw [HN.out]; simp; omega
    clear hbad h0
    go_enter Tryz.func60, Tryz.ntmps60
    go_wp2_with fail
    refine HB.out.mono ?_
    rintro e w' ⟨rfl, hh⟩
    have HH := hide hh
    have HP := hide (rpages_any hh.1)
    rw [HL.out, ← HN.out] at HP
    clear hh
    go_wp2_with fail
    refine HP.out.mono ?_
    rintro e w'' ⟨rfl, rfl⟩
    go_wp2
    go_ret2
    exact ⟨rfl, HH.out⟩
set_option maxHeartbeats 1600000 in
set_option maxRecDepth 1000000 in
theorem rread_any (h : RD w p vl Ls vc Cs f S) (pg : Nat) (hn : S.n1 + 1 ≤ 1000000) (he : S.er S.s1 S.l1 = 0) (hpg : pg < S.ls.length / 8) :
    Calls Tryz.prog 60 #[.pointer (some ⟨p, 0, none⟩), .int .i64 (pg : Int)] w fun e w' => ∃ v, e = .returned (.tuple #[v, .int .u16 0]) ∧ Own w' v (rd S (8 * pg) 8) ∧ (∀ g, v.ownBlock = some g → w.heap.size ≤ g) ∧ RD w' p vl Ls vc Cs f (S.be S.op1) ∧ Mv (fun k => k = p ∨ k = f) w w' := by
  have HB := hide (begins1 h hn)
  rw [he] at HB
  have HL : Hid ((S.be S.op1).ls = S.ls) := by rw [be_zero he]; rfl
  have hz := zero63
  have hN := h.good.most
  have HG := hide h.good
  have HO1 : Hid (S.be S.op1 = S.op1) := be_zero he
  have HNe : Hid (∀ n, newest S.op1 n = newest S n) := fun n => rfl
  clear h hn he
  have hd0 : decide ((pg : Int) < 0) = false := by simp
  obtain ⟨N, HN⟩ : ∃ N, Hid (N = S.ls.length / 8) := ⟨_, rfl⟩
  have hpN : pg < N := by rw [HN.out]; exact hpg
  have hN8 : N ≤ 16384 := by rw [HN.out]; omega
  have hd1 : decide (N ≤ pg) = false := by simp; omega
  clear hN hpg
  go_enter Tryz.func60, Tryz.ntmps60
  go_wp2_with fail
  refine HB.out.mono ?_
  rintro e w1 ⟨rfl, hh⟩
  have HH := hide hh
  have HP := hide (rpages_any hh.1)
  rw [HL.out, ← HN.out] at HP
  clear hh
  go_wp2_with fail
  refine HP.out.mono ?_
  rintro e w'' ⟨rfl, rfl⟩
  rw [HO1.out] at HH
  obtain ⟨i0, hi, hz0, hz1, hz2⟩ := info_parts Tryz.info5
  go_wp2
  go_loopw [8, 7] (fun i v wr' => ∃ k : Nat, k ≤ 8 ∧ i = .int .i64 (k : Int) ∧ Own wr' v (rd S (8 * pg) k) ∧ (∀ g, v.ownBlock = some g → w''.heap.size ≤ g) ∧ Below w''.heap.size w'' wr') (fun i _ _ => 8 - (intOf i).toNat)
  case atStart => exact ⟨0, Nat.zero_le _, rfl, World.ownsRow_nil _ _ _ _, fun g hg => by simp [Value.ownBlock] at hg, Below.refl _ _⟩
  case round =>
    obtain ⟨k, hk, rfl, hown, hnew, hb⟩ := hrel
    have HO := hide hown
    have HNw := hide hnew
    have HB := hide hb
    clear hown hnew hb
    by_cases hlt : k < 8
    · have hkl : 8 * pg + k < S.ls.length := by have := HN.out; omega
      have hd2 : decide ((k : Int) < 8) = true := by simp; omega
      have hw1 : IntKind.i64.wrap (8 * (pg : Int)) = 8 * (pg : Int) := by rw [IntKind.wrap_i64]; omega
      have hw2 : IntKind.i64.wrap (8 * (pg : Int) + (k : Int)) = ((8 * pg + k : Nat) : Int) := by rw [IntKind.wrap_i64]; omega
      have HS := hide (rsector_any (HH.out.1.below HB.out) (8 * pg + k) hkl)
      have HGn : Hid ((newest S (8 * pg + k)).length = 128) := (newest_good HG.out _ hkl).1
      have HRl : Hid ((rd S (8 * pg) k).length = k * 128) := rd_len HG.out _ k (by omega)
      rw [show ((8 * pg + k : Nat) : Int) = 8 * (pg : Int) + (k : Int) by omega] at HS
      have HEnd : Hid (∀ v' w4, Own w4 v' (rd S (8 * pg) k ++ newest S (8 * pg + k)) → wr.grownBy w4 u7.ownBlock → (∀ g, v'.ownBlock = some g → u7.ownBlock = some g ∨ wr.heap.size ≤ g) → ∃ k' : Nat, k' ≤ 8 ∧ Value.int .i64 ((k : Int) + 1) = .int .i64 (k' : Int) ∧ Own w4 v' (rd S (8 * pg) k') ∧ (∀ g, v'.ownBlock = some g → w''.heap.size ≤ g) ∧ Below w''.heap.size w'' w4) := fun v' w4 ho hg hl => by
        refine ⟨k + 1, by omega, by simp, by rw [rd_succ]; exact ho, fun g hv => (hl g hv).elim (HNw.out g) (fun h => Nat.le_trans HB.out.size h), ?_⟩
        refine ⟨hg.os.trans HB.out.os, hg.tape.trans HB.out.tape, hg.output.trans HB.out.output, Nat.le_trans HB.out.size hg.size, fun j hj => ?_⟩
        rw [hg.block j (Nat.lt_of_lt_of_le hj HB.out.size) (fun e => by have := HNw.out j e.symm; omega)]
        exact HB.out.block j hj
      have HBd : Hid ((rd S (8 * pg) k).length + 128 ≤ 140737488355328) := by rw [Hid, HRl.out]; omega
      clear hkl
      go_wp2_with fail
      refine HS.out.mono ?_
      rintro e w3 ⟨v, rfl, hsl, rfl⟩
      have hsr := hsl.src
      rw [HNe.out, HGn.out] at hsr
      have HSr := hide hsr
      clear hsl hsr
      go_wp2_with (at_builtin; refine wpList_append_src (by rfl) (.tmp 26) (.tmp 32) 22 22 (by rfl) i0 Tryz.underlying22 hi hz0 hz1 hz2 u7 _ (by rfl) HO.out _ 128 (newest S (8 * pg + k)) (by rfl) HSr.out HBd.out ?_; intro v' w4 ho4 hg4 hl4; have HO4 := hide ho4; have HG4 := hide hg4; have HL4 := hide hl4; clear ho4 hg4 hl4)
      go_roundw
      case rel => exact HEnd.out v' w4 HO4.out HG4.out HL4.out
      case measure => simp [intOf]; omega
    · have e : k = 8 := by omega
      subst e
      go_wp2
      go_ret2
      exact ⟨_, rfl, HO.out, fun g hg => Nat.le_trans HH.out.2.size (HNw.out g hg), by rw [HO1.out]; exact HH.out.1.below HB.out, HH.out.2.on HB.out⟩
end Go.Proofs.YtlmofgfkclfgeaaGreat
/- Image. -/
namespace Go.Proofs.YtlmofgfkclfgeaaGreat
open Go.RowKit Go.Maps
set_option linter.unusedVariables false

theorem make63n (n : Nat) (hn : n ≤ 20000000) (W : World) : (Instr.makeSlice 22 (.int .i64 0) (.int .i64 (n : Int))).run Tryz.prog W = .ok (.slice (some ⟨W.heap.size, 0, none⟩) 0 n) (W.alloc (.cells (madeCells #[.int .u8 0] n) 5)) := by
  obtain ⟨i0, hi, hz0, hz1, hz2⟩ := info_parts Tryz.info5
  have := run_make (P := Tryz.prog) W 22 5 i0 _ Tryz.underlying22 hi hz0 .i64 .i64 0 (n : Int) (by omega) (by omega) (by rw [hz2]; omega) (by omega)
  rw [hz1] at this
  simpa [Value.cells] using this
theorem flat_take (L : List (List Int)) (k : Nat) (hk : k < L.length) : (L.take (k + 1)).flatten = (L.take k).flatten ++ L.getD k [] := by
  rw [List.take_succ_eq_append_getElem hk, List.flatten_append, List.getD_eq_getElem?_getD, List.getElem?_eq_getElem hk]
  simp
theorem flat_tlen (L : List (List Int)) (h : ∀ s ∈ L, s.length = 128) : ∀ k, k ≤ L.length → (L.take k).flatten.length = k * 128
  | 0, _ => by simp
  | k + 1, hk => by rw [flat_take L k (by omega), List.length_append, flat_tlen L h k (by omega), h _ (getD_mem _ _ _ (by omega)), Nat.add_mul]
/-- a slice's first cells hold these ints. -/
def IRow (w : World) (a : Option Addr) (zs : List Nat) : Prop :=
  zs = [] ∨ ∃ b off, a = some ⟨b, off, none⟩ ∧ b < w.heap.size ∧ ∀ i, i < zs.length → w.cell? ⟨b, off + i, none⟩ = some (.int .i64 ((zs.getD i 0 : Nat) : Int))
theorem IRow.below {w w' : World} {a : Option Addr} {zs : List Nat} (h : IRow w a zs) (hb : Below w.heap.size w w') : IRow w' a zs := by
  rcases h with h | ⟨b, off, rfl, hlt, hc⟩
  · exact .inl h
  · exact .inr ⟨b, off, rfl, Nat.lt_of_lt_of_le hlt hb.size, fun i hi => (hb.cell (p := ⟨b, off + i, none⟩) hlt).trans (hc i hi)⟩
theorem OwnI.row {w : World} {v : Value} {zs : List Nat} (h : OwnI w v zs) : ∃ a c, v = .slice a zs.length c ∧ IRow w a zs := by
  rcases h.2 with ⟨rfl, h0⟩ | ⟨g, cap, cur, rfl, _, hg, _⟩
  · exact ⟨none, 0, by rw [h0], .inl (List.eq_nil_of_length_eq_zero h0)⟩
  · refine ⟨_, cap, rfl, .inr ⟨g, 0, rfl, lt_of_block hg, fun i hi => ?_⟩⟩
    have := World.ownsRow.cells h (g := g) rfl i (.int .i64 ((zs.getD i 0 : Nat) : Int)) (by simp [hi])
    rwa [Addr.add_lit] at this
end Go.Proofs.YtlmofgfkclfgeaaGreat
/- Image and Pending, of the document's own disk. -/
namespace Go.Proofs.YtlmofgfkclfgeaaGreat
open Go.RowKit Go.Maps
set_option linter.unusedVariables false
variable {w w' : World} {p f : Nat} {vl vc : Value} {Ls Cs : List Value} {S S' : DS}

end Go.Proofs.YtlmofgfkclfgeaaGreat
