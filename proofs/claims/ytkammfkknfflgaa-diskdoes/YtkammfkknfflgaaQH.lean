/- Cut, of the document's own disk. -/
import Derived.Test.YtkammfkknfflgaaQG
namespace Go.Proofs.Ytkammfkknfflgaa
open Go.RowKit Go.Maps
set_option linter.unusedVariables false
variable {w w' : World} {p f : Nat} {vl vc : Value} {Ls Cs : List Value} {S S' : DS}

theorem Stl.at_ {wa wr : World} {t : Nat → Bool} {k N M lc cc : Nat} {la ca : Option Addr} (hst : Stl wa wr p vl Ls vc Cs f S t k) (hk : k < S.ws.length) (hg : S.Good) (hcl : Cs.length = S.ws.length) (hvl : vl = .slice la N lc) (hvc : vc = .slice ca M cc) :
    ∃ b g n va vn vp, la = some ⟨g, 0, none⟩ ∧ ca = some ⟨b, 0, none⟩ ∧ wr.cell? ⟨b, k * 2, none⟩ = some (.int .i64 ((n : Nat) : Int)) ∧ wr.cell? ⟨b, k * 2 + 1, none⟩ = some (.slice va vn vp) ∧ n < S.ls.length ∧ (∃ u, wr.cell? ⟨g, n, none⟩ = some u) ∧ wr.frozen? ⟨g, n, none⟩ = false ∧ (t k = true → Stl wa (wr.setCell ⟨g, n, none⟩ (.slice va vn vp)) p vl Ls vc Cs f S t (k + 1)) := by
  obtain ⟨Lt, hr, -⟩ := hst.at'
  have hx := List.getElem?_eq_getElem hk
  have hC : k < Cs.length := by rw [hcl]; exact hk
  have hv := List.getElem?_eq_getElem hC
  have hxg := hg.ws _ (List.mem_of_getElem? hx)
  obtain ⟨b, cap', e1, -, -, -, HR, -⟩ := row_at hr.cac (by show 0 < S.ws.length; omega)
  have ha := rwc_at S.ws Cs k _ _ hx hv
  have hln : (settled S.ls S.ws t k).length = S.ls.length := settled_len _ _ _ _
  obtain ⟨g, cap2, e2, -, -, -, HL, HF⟩ := row_at hr.las (by show 0 < (settled S.ls S.ws t k).length; omega)
  have hLt : S.ws[k].1 < Lt.length := by rw [hr.lle]; show _ < (settled S.ls S.ws t k).length; rw [hln]; exact hxg.1
  have e2' := e2
  rw [hvc] at e1
  rw [hvl] at e2
  injection e1 with e1
  injection e2 with e2
  obtain ⟨va, vp, ev, -⟩ := (hr.csl k _ _ hx hv).shape
  rw [ev] at hv ha
  exact ⟨b, g, S.ws[k].1, va, _, vp, e2, e1, HR.out _ _ ha.1, HR.out _ _ ha.2, hxg.1, ⟨_, HL.out _ _ (List.getElem?_eq_getElem hLt)⟩, HF.out _, fun ht => hst.take ht e2' _ _ hx hv hxg.2.1 hxg.2.2⟩
theorem brow_mv {O : Nat → Prop} {a : Option Addr} {bs : List Bool} (h : BRow w a bs) (hm : Mv O w w') (ho : bs ≠ [] → ∀ ad, a = some ad → ¬ O ad.block) : BRow w' a bs := by
  rcases h with h0 | ⟨b, off, rfl, hlt, hc⟩
  · exact .inl h0
  · by_cases h0 : bs = []
    · exact .inl h0
    · exact .inr ⟨b, off, rfl, Nat.lt_of_lt_of_le hlt hm.size, fun i hi => (World.cell?_of_block (a := ⟨b, off + i, none⟩) (hm.block b hlt (ho h0 _ rfl))).trans (hc i hi)⟩
set_option maxHeartbeats 1600000 in
set_option maxRecDepth 1000000 in
theorem rcut_any (h : RD w p vl Ls vc Cs f S) (ka : Option Addr) (kc : Nat) (bs : List Bool) (hbr : BRow w ka bs) (hka : bs ≠ [] → ∀ ad, ka = some ad → vl.ownBlock ≠ some ad.block) (hbl : bs.length ≤ 9223372036854775807) :
    Calls Try.prog 45 #[.pointer (some ⟨p, 0, none⟩), .slice ka bs.length kc] w fun e w' => e = .returned (.tuple #[]) ∧ ∃ Lt f', RD w' p vl Lt (.slice none 0 0) [] f' (S.cut bs) ∧ (∀ v ∈ Lt, v ∈ Ls ∨ v ∈ Cs) ∧ w.heap.size ≤ f' ∧ Mv (fun k => k = p ∨ vl.ownBlock = some k) w w' := by
  obtain ⟨N, HN, hNm⟩ : ∃ N, Hid (N = S.ls.length) ∧ N ≤ 131072 := ⟨_, rfl, h.good.most⟩
  obtain ⟨M, HM, hMm⟩ : ∃ M, Hid (M = S.ws.length) ∧ M ≤ 40000000 := ⟨_, rfl, h.good.few⟩
  obtain ⟨la, lc, hvl⟩ := row_len h.las
  rw [← HN.out] at hvl
  obtain ⟨ca, cc, hvc⟩ := row_len h.cac
  rw [← HM.out] at hvc
  obtain ⟨B, HBn⟩ : ∃ B, Hid (B = bs.length) := ⟨_, rfl⟩
  rw [← HBn.out] at hbl ⊢
  have HC : Hid (∀ wr k, Stl w wr p vl Ls vc Cs f S (kp bs) k → k < M → ∃ b g n va vn vp, la = some ⟨g, 0, none⟩ ∧ ca = some ⟨b, 0, none⟩ ∧ wr.cell? ⟨b, k * 2, none⟩ = some (.int .i64 ((n : Nat) : Int)) ∧ wr.cell? ⟨b, k * 2 + 1, none⟩ = some (.slice va vn vp) ∧ n < N ∧ (∃ u, wr.cell? ⟨g, n, none⟩ = some u) ∧ wr.frozen? ⟨g, n, none⟩ = false ∧ (kp bs k = true → Stl w (wr.setCell ⟨g, n, none⟩ (.slice va vn vp)) p vl Ls vc Cs f S (kp bs) (k + 1))) := by
    intro wr k hst hk
    rw [HN.out]
    exact hst.at_ (by rw [← HM.out]; exact hk) h.good h.cle hvl hvc
  have HK : Hid (∀ wr k, Stl w wr p vl Ls vc Cs f S (kp bs) k → k < B → ∃ c off, ka = some ⟨c, off, none⟩ ∧ wr.cell? ⟨c, off + k, none⟩ = some (.bool (kp bs k))) := by
    intro wr k hst hk
    have hk' : k < bs.length := by rw [← HBn.out]; exact hk
    rcases brow_mv hbr hst.mv (fun h0 ad e => hka h0 ad e) with h0 | ⟨c, off, e, -, hc⟩
    · rw [h0] at hk'; simp at hk'
    · exact ⟨c, off, e, hc k hk'⟩
  have HNo : Hid (∀ k, ¬ k < B → kp bs k = false) := fun k hk => by
    rw [kp, List.getD_eq_getElem?_getD, List.getElem?_eq_none (by rw [← HBn.out]; omega)]; rfl
  have HC0 : Hid (∀ wr k, Stl w wr p vl Ls vc Cs f S (kp bs) k → wr.cell? ⟨p, 0, none⟩ = some (.slice la N lc) ∧ wr.cell? ⟨p, 1, none⟩ = some (.slice ca M cc) ∧ (∀ i, wr.frozen? ⟨p, i, none⟩ = false) ∧ wr.cell? ⟨p, 2, none⟩ = some (.bool S.dk) ∧ wr.cell? ⟨p, 3, none⟩ = some (.int .i64 (ft S.ts S.tl)) ∧ wr.cell? ⟨p, 4, none⟩ = some (.slice (some ⟨f, 0, none⟩) 4 4)) := by
    intro wr k hst
    obtain ⟨Lt, hr, -⟩ := hst.at'
    exact ⟨by rw [← hvl]; exact hr.c 0 vl rfl, by rw [← hvc]; exact hr.c 1 vc rfl, hr.fz, hr.c 2 _ rfl, hr.c 3 _ rfl, hr.c 4 _ rfl⟩
  have HF : Hid (∀ wr, Stl w wr p vl Ls vc Cs f S (kp bs) M → ((((wr.setCell ⟨p, 1, none⟩ (.slice none 0 0)).setCell ⟨p, 2, none⟩ (.bool false)).setCell ⟨p, 3, none⟩ (.int .i64 (-1))).alloc (.cells #[.int .i64 (-1), .int .i64 (-1), .int .i64 (-1), .int .i64 (-1)] 3)).cell? ⟨p, 4, none⟩ = some (.slice (some ⟨f, 0, none⟩) 4 4) ∧ ((((wr.setCell ⟨p, 1, none⟩ (.slice none 0 0)).setCell ⟨p, 2, none⟩ (.bool false)).setCell ⟨p, 3, none⟩ (.int .i64 (-1))).alloc (.cells #[.int .i64 (-1), .int .i64 (-1), .int .i64 (-1), .int .i64 (-1)] 3)).frozen? ⟨p, 4, none⟩ = false ∧ ∃ Lt f', RD (((((wr.setCell ⟨p, 1, none⟩ (.slice none 0 0)).setCell ⟨p, 2, none⟩ (.bool false)).setCell ⟨p, 3, none⟩ (.int .i64 (-1))).alloc (.cells #[.int .i64 (-1), .int .i64 (-1), .int .i64 (-1), .int .i64 (-1)] 3)).setCell ⟨p, 4, none⟩ (.slice (some ⟨wr.heap.size, 0, none⟩) 4 4)) p vl Lt (.slice none 0 0) [] f' (S.cut bs) ∧ (∀ v ∈ Lt, v ∈ Ls ∨ v ∈ Cs) ∧ w.heap.size ≤ f' ∧ Mv (fun k => k = p ∨ vl.ownBlock = some k) w (((((wr.setCell ⟨p, 1, none⟩ (.slice none 0 0)).setCell ⟨p, 2, none⟩ (.bool false)).setCell ⟨p, 3, none⟩ (.int .i64 (-1))).alloc (.cells #[.int .i64 (-1), .int .i64 (-1), .int .i64 (-1), .int .i64 (-1)] 3)).setCell ⟨p, 4, none⟩ (.slice (some ⟨wr.heap.size, 0, none⟩) 4 4))) := by
    intro wr hst
    obtain ⟨Lt, hr, hm⟩ := hst.at'
    have hpl := hr.lt p (.inl rfl)
    obtain ⟨W1, hW1⟩ : ∃ W1, W1 = sets wr p [(1, .slice none 0 0), (2, .bool false), (3, .int .i64 (-1))] := ⟨_, rfl⟩
    have hm1 : Mv (· = p) wr W1 := by rw [hW1]; exact sets_mv p _ wr
    have hs1 : W1.heap.size = wr.heap.size := by rw [hW1]; simp [sets]
    have hb1 : W1.heap[p]? = some (.cells #[vl, .slice none 0 0, .bool false, .int .i64 (-1), .slice (some ⟨f, 0, none⟩) 4 4, .int .i64 S.n1, .int .i64 S.n2, .int .i64 S.n3] 100 (0, 0)) := by
      rw [hW1, sets_blk p 100 _ wr _ hr.blk]; simp [rcells, DS.las]
    have hb2 := (Below.heap_alloc W1 (.cells #[.int .i64 (-1), .int .i64 (-1), .int .i64 (-1), .int .i64 (-1)] 3) p (by omega)).trans hb1
    have hb3 := heap_alloc_new W1 (.cells #[.int .i64 (-1), .int .i64 (-1), .int .i64 (-1), .int .i64 (-1)] 3)
    rw [show ((((wr.setCell ⟨p, 1, none⟩ (.slice none 0 0)).setCell ⟨p, 2, none⟩ (.bool false)).setCell ⟨p, 3, none⟩ (.int .i64 (-1))).alloc (.cells #[.int .i64 (-1), .int .i64 (-1), .int .i64 (-1), .int .i64 (-1)] 3)) = W1.alloc (.cells #[.int .i64 (-1), .int .i64 (-1), .int .i64 (-1), .int .i64 (-1)] 3) by rw [hW1]; rfl]
    have hmv : Mv (fun k => k = p) wr ((W1.alloc (.cells #[.int .i64 (-1), .int .i64 (-1), .int .i64 (-1), .int .i64 (-1)] 3)).setCell ⟨p, 4, none⟩ (.slice (some ⟨wr.heap.size, 0, none⟩) 4 4)) := (hm1.on (below_alloc W1 _)).trans' (sets_mv p [(4, .slice (some ⟨wr.heap.size, 0, none⟩) 4 4)] _)
    refine ⟨by simp [World.cell?, hb2], by simp [World.frozen?, hb2], Lt, wr.heap.size, hr.clear (S' := S.cut bs) (by show settled S.ls S.ws (kp bs) S.ws.length = settled S.ls S.ws (kp bs) M; rw [HM.out]) rfl (h.good.cut bs) wr.heap.size (hmv.mono' fun k hk => .inl hk) ?_ ?_, hm, hst.mv.size, (hst.mv.mono' fun k hk => .inr hk).trans' (hmv.mono' fun k hk => .inl hk)⟩
    · have := sets_blk p 100 [(4, .slice (some ⟨wr.heap.size, 0, none⟩) 4 4)] _ _ hb2
      refine this.trans ?_
      simp [rcells, DS.cut, DS.set, ft]
    · rw [← hs1]
      refine (sets_other p W1.heap.size (by omega) [(4, .slice (some ⟨W1.heap.size, 0, none⟩) 4 4)] _).trans (hb3.trans ?_)
      simp [fcells, DS.cut, ft]
  have HS := hide (Stl.start (kp bs) h)
  obtain ⟨c0, c1, -, -, -, -⟩ := HC0.out w 0 HS.out
  clear h hbr hka hvl hvc
  go_enter Try.func45, Try.ntmps45
  go_wp2
  clear c0 c1
  go_loopw [4] (fun i wr' => ∃ k : Nat, k ≤ M ∧ i = .int .i64 (k : Int) ∧ Stl w wr' p vl Ls vc Cs f S (kp bs) k) (fun i _ => M - (intOf i).toNat)
  case atStart => exact ⟨0, Nat.zero_le _, rfl, HS.out⟩
  case round =>
    obtain ⟨k, hk, rfl, hst⟩ := hrel
    obtain ⟨c0, c1, hz, c2, c3, c4⟩ := HC0.out wr k hst
    have HSt := hide hst
    clear hst
    by_cases hlt : k < M
    · have hnb : decide (k < M) = true := by simp [hlt]
      by_cases hkB : k < B
      · obtain ⟨c, off, rfl, dk⟩ := HK.out wr k HSt.out hkB
        have hkb : decide (k < B) = true := by simp [hkB]
        cases hkp : kp bs k
        · rw [hkp] at dk
          have HS2 := hide (HSt.out.skip hkp)
          clear hkp c2 c3 c4 hz
          go_wp2
          exact ⟨⟨k + 1, by omega, by simp, HS2.out⟩, by simp [intOf]; omega⟩
        · rw [hkp] at dk
          obtain ⟨b, g, n, va, vn, vp, rfl, rfl, d0, d1, hn, ⟨u, d2⟩, d3, hs2⟩ := HC.out wr.drew k HSt.out.drew hlt
          have HS2 := hide (hs2 hkp)
          have d0' : wr.cell? ⟨b, k * 2, none⟩ = some (.int .i64 (n : Int)) := d0
          have d1' : wr.cell? ⟨b, k * 2 + 1, none⟩ = some (.slice va vn vp) := d1
          have d2' : wr.cell? ⟨g, n, none⟩ = some u := d2
          have hnn : decide (n < N) = true := by simp [hn]
          clear hs2 hkp c2 c3 c4 hz
          go_wp2
          go_region
          go_wp2
          go_roundw
          case rel => exact ⟨k + 1, by omega, by simp, HS2.out⟩
          case measure => simp [intOf]; omega
      · have hkb : decide (k < B) = false := by simp; omega
        have HS2 := hide (HSt.out.skip (HNo.out k hkB))
        clear c2 c3 c4 hz
        go_wp2
        exact ⟨⟨k + 1, by omega, by simp, HS2.out⟩, by simp [intOf]; omega⟩
    · have e : k = M := by omega
      subst e
      have hnb : decide (k < k) = false := by simp
      have z1 := hz 1
      have z2 := hz 2
      have z3 := hz 3
      have z4 := hz 4
      obtain ⟨k4, z4', hfi⟩ := HF.out wr HSt.out
      have HE := hide hfi
      clear hz hfi
      go_wp2
      go_end0
      exact ⟨rfl, HE.out⟩
end Go.Proofs.Ytkammfkknfflgaa
