/- Sync and Cut, of the document's own disk. -/
import Derived.Test.YtobokocpapfjbaaGreatXF
namespace Go.Proofs.YtobokocpapfjbaaGreat
open Go.RowKit Go.Maps
set_option linter.unusedVariables false
variable {w w' : World} {p f : Nat} {vl vc : Value} {Ls Cs : List Value} {S S' : DS}

theorem RD.sl_other (h : RD w p vl Ls vc Cs f S) {g : Nat} (hg : vl.ownBlock = some g) {v : Value} {zs : List Int} (hs : Sl w v zs) : v.ownBlock ≠ some g := fun e => by
  obtain ⟨c1, g1, h1⟩ := row_type h.las hg
  obtain ⟨c2, g2, h2⟩ := hs.type e
  rw [h1] at h2
  simp at h2
theorem RD.row_other (h : RD w p vl Ls vc Cs f S) {g : Nat} (hg : vl.ownBlock = some g) : p ≠ g ∧ f ≠ g ∧ vc.ownBlock ≠ some g := by
  obtain ⟨c1, g1, h1⟩ := row_type h.las hg
  refine ⟨fun e => ?_, fun e => ?_, fun e => ?_⟩
  · rw [← e, h.blk] at h1; simp at h1
  · rw [← e, h.fau] at h1; simp at h1
  · obtain ⟨c2, g2, h2⟩ := row_type h.cac e
    rw [h1] at h2; simp at h2
theorem DS.Good.put (h : S.Good) (n : Nat) (zs : List Int) (hz : zs.length = 128) (hb : Byts zs) : (S.las (S.ls.set n zs)).Good :=
  ⟨fun s hs => by
    rcases List.mem_or_eq_of_mem_set hs with hs | rfl
    · exact h.ls s hs
    · exact ⟨hz, hb⟩, fun x hx => ⟨by show x.1 < (S.ls.set n zs).length; rw [List.length_set]; exact (h.ws x hx).1, (h.ws x hx).2⟩, by show (S.ls.set n zs).length ≤ _; rw [List.length_set]; exact h.most, h.few, h.t, h.f1, h.f2, h.f3, h.n1, h.n2, h.n3⟩
/-- a sector's row is laid into the table. -/
theorem RD.put (h : RD w p vl Ls vc Cs f S) {g N cap : Nat} (hvl : vl = .slice (some ⟨g, 0, none⟩) N cap) (n : Nat) (v : Value) (zs : List Int) (hv : Sl w v zs) (hz : zs.length = 128) (hb : Byts zs) :
    RD (w.setCell ⟨g, n, none⟩ v) p vl (Ls.set n v) vc Cs f (S.las (S.ls.set n zs)) ∧ Mv (fun k => vl.ownBlock = some k) w (w.setCell ⟨g, n, none⟩ v) := by
  have hg : vl.ownBlock = some g := by rw [hvl]; rfl
  obtain ⟨o1, o2, o3⟩ := h.row_other hg
  have hot : ∀ k, k ≠ g → (w.setCell ⟨g, n, none⟩ v).heap[k]? = w.heap[k]? := fun k hk => heap_setCell_other w ⟨g, n, none⟩ k v hk
  have hsz : (w.setCell ⟨g, n, none⟩ v).heap.size = w.heap.size := by simp
  have hkeep : ∀ u ys, Sl w u ys → Sl (w.setCell ⟨g, n, none⟩ v) u ys := fun u ys hs => hs.stays (fun k hk hl => hot k (fun e => h.sl_other hg hs (e ▸ hk))) (by omega)
  have hN : N = S.ls.length := by
    obtain ⟨a, c, e⟩ := row_len h.las
    rw [hvl] at e
    injection e with _ e2
  have hst := World.ownsRow.stored (by have := h.las; rw [hvl, ← hN] at this; exact this) n v
  refine ⟨⟨(hot p o1).trans h.blk, ?_, ?_, ?_, row_keep h.cac (fun k hk => hot k (fun e => o3 (e ▸ hk))), h.cle, fun i x u g1 g2 => hkeep u _ (h.csl i x u g1 g2), (hot f o2).trans h.fau, h.good.put n zs hz hb⟩, ?_⟩
  · show World.ownsRow _ 0 22 1 vl (S.ls.set n zs).length _
    rw [List.length_set, ← hN, hvl]
    exact hst.1
  · show (Ls.set n v).length = (S.ls.set n zs).length
    rw [List.length_set, List.length_set]; exact h.lle
  · intro i ys u g1 g2
    have g1' : (S.ls.set n zs)[i]? = some ys := g1
    rw [List.getElem?_set] at g1' g2
    by_cases e : n = i
    · rw [if_pos e] at g1' g2
      split at g1'
      · split at g2
        · cases g1'; cases g2; exact hkeep _ _ hv
        · simp at g2
      · simp at g1'
    · rw [if_neg e] at g1' g2
      exact hkeep _ _ (h.lsl i ys u g1' g2)
  · exact ⟨rfl, rfl, rfl, by omega, fun k hk hn => hot k (fun e => hn (by rw [hg, e]))⟩
/-- the cache is emptied, and other fields may turn. -/
theorem RD.clear (h : RD w p vl Ls vc Cs f S) (h1 : S'.ls = S.ls) (h2 : S'.ws = []) (hg : S'.Good) (f' : Nat) (hm : Mv (fun k => k = p ∨ k = f) w w') (hbp : w'.heap[p]? = some (.cells (rcells vl (.slice none 0 0) f' S') 88 (0, 0))) (hbf : w'.heap[f']? = some (.cells (fcells S') 3 (0, 0))) :
    RD w' p vl Ls (.slice none 0 0) [] f' S' := by
  refine ⟨hbp, ?_, by rw [h1]; exact h.lle, fun i zs v g1 g2 => ?_, by rw [h2]; exact World.ownsRow_nil _ _ _ _, by rw [h2]; rfl, fun i x v g1 g2 => by simp at g2, hbf, hg⟩
  · rw [h1]
    refine row_keep h.las (fun k hk => hm.block k (h.las.lt k hk).2 (fun hx => ?_))
    obtain ⟨o1, o2, o3⟩ := h.row_other hk
    rcases hx with rfl | rfl
    · exact o1 rfl
    · exact o2 rfl
  · rw [h1] at g1
    have hs := h.lsl i zs v g1 g2
    refine hs.stays (fun k hk hl => hm.block k hl (fun hx => ?_)) hm.size
    obtain ⟨c2, g2, h2⟩ := hs.type hk
    rcases hx with rfl | rfl
    · rw [h.blk] at h2; simp at h2
    · rw [h.fau] at h2; simp at h2
/-- the state between two rounds of the loop that settles the cache. -/
structure Stl (w wr : World) (p : Nat) (vl : Value) (Ls : List Value) (vc : Value) (Cs : List Value) (f : Nat) (S : DS) (t : Nat → Bool) (k : Nat) : Prop where
  at' : ∃ Lt, RD wr p vl Lt vc Cs f (S.las (settled S.ls S.ws t k)) ∧ ∀ v ∈ Lt, v ∈ Ls ∨ v ∈ Cs
  mv : Mv (fun k => vl.ownBlock = some k) w wr
theorem Stl.start (t : Nat → Bool) (h : RD w p vl Ls vc Cs f S) : Stl w w p vl Ls vc Cs f S t 0 := ⟨⟨Ls, h, fun v hv => .inl hv⟩, Mv.refl _ _⟩
theorem RD.drew (h : RD w p vl Ls vc Cs f S) : RD w.drew p vl Ls vc Cs f S := h.below (Below.refl _ _).drew
theorem Stl.drew {t : Nat → Bool} {wr : World} {k : Nat} (h : Stl w wr p vl Ls vc Cs f S t k) : Stl w wr.drew p vl Ls vc Cs f S t k := by
  obtain ⟨Lt, hr, hm⟩ := h.at'
  exact ⟨⟨Lt, hr.drew, hm⟩, h.mv.on (Below.refl _ _).drew⟩
theorem Stl.skip {t : Nat → Bool} {wr : World} {k : Nat} (h : Stl w wr p vl Ls vc Cs f S t k) (ht : t k = false) : Stl w wr p vl Ls vc Cs f S t (k + 1) := by
  refine ⟨?_, h.mv⟩
  rw [settled, if_neg (by rw [ht]; simp)]
  exact h.at'
theorem Stl.take {t : Nat → Bool} {wr : World} {k : Nat} (h : Stl w wr p vl Ls vc Cs f S t k) (ht : t k = true) {g N cap : Nat} (hvl : vl = .slice (some ⟨g, 0, none⟩) N cap) (x : Nat × List Int) (v : Value) (hx : S.ws[k]? = some x) (hv : Cs[k]? = some v) (hz : x.2.length = 128) (hb : Byts x.2) : Stl w (wr.setCell ⟨g, x.1, none⟩ v) p vl Ls vc Cs f S t (k + 1) := by
  obtain ⟨Lt, hr, hm⟩ := h.at'
  have hp := hr.put hvl x.1 v x.2 (hr.csl k x v hx hv) hz hb
  refine ⟨⟨Lt.set x.1 v, ?_, fun u hu => ?_⟩, h.mv.trans' hp.2⟩
  · rw [settled, if_pos ht, List.getD_eq_getElem?_getD, hx]
    exact hp.1
  · rcases List.mem_or_eq_of_mem_set hu with hu | rfl
    · exact hm u hu
    · exact .inr (List.mem_of_getElem? hv)
set_option maxHeartbeats 1600000 in
set_option maxRecDepth 1000000 in
theorem rsync_er (h : RD w p vl Ls vc Cs f S) (hn : S.n3 + 1 ≤ 1000000) (he : S.er S.s3 S.l3 ≠ 0) :
    Calls Tryz.prog 24 #[.pointer (some ⟨p, 0, none⟩)] w fun e w' => e = .returned (.int .u16 (S.er S.s3 S.l3 : Int)) ∧ RD w' p vl Ls vc Cs f (S.be S.op3) ∧ Mv (fun k => k = p ∨ k = f) w w' := by
  have HB := hide (begins3 h hn)
  obtain ⟨r, HR⟩ : ∃ r, Hid (r = S.er S.s3 S.l3) := ⟨_, rfl⟩
  rw [← HR.out] at HB he ⊢
  have he' : ((r : Int) == 0) = false := by simp; omega
  clear h hn he
  go_enter Tryz.func24, Tryz.ntmps24
  go_wp2_with fail
  refine HB.out.mono ?_
  rintro e w' ⟨rfl, hh⟩
  have HH := hide hh
  clear hh
  go_wp2
  go_ret
  exact ⟨rfl, HH.out⟩
set_option maxHeartbeats 1600000 in
set_option maxRecDepth 1000000 in
theorem rsync_any (h : RD w p vl Ls vc Cs f S) (hn : S.n3 + 1 ≤ 1000000) (he : S.er S.s3 S.l3 = 0) :
    Calls Tryz.prog 24 #[.pointer (some ⟨p, 0, none⟩)] w fun e w' => e = .returned (.int .u16 0) ∧ ∃ Lt, RD w' p vl Lt (.slice none 0 0) [] f (S.op3.set yes) ∧ (∀ v ∈ Lt, v ∈ Ls ∨ v ∈ Cs) ∧ Mv (fun k => k = p ∨ k = f ∨ vl.ownBlock = some k) w w' := by
  have HB := hide (begins3 h hn)
  rw [he, be_zero he] at HB
  obtain ⟨N, HN, hNm⟩ : ∃ N, Hid (N = S.ls.length) ∧ N ≤ 131072 := ⟨_, rfl, h.good.most⟩
  obtain ⟨M, HM, hMm⟩ : ∃ M, Hid (M = S.ws.length) ∧ M ≤ 1000000 := ⟨_, rfl, h.good.few⟩
  obtain ⟨la, lc, hvl⟩ := row_len h.las
  rw [← HN.out] at hvl
  obtain ⟨ca, cc, hvc⟩ := row_len h.cac
  rw [← HM.out] at hvc
  have HVL := hide hvl
  have HVC := hide hvc
  have HC : Hid (∀ wa wr k, Stl wa wr p vl Ls vc Cs f S.op3 yes k → k < M → ∃ b g n va vn vp, la = some ⟨g, 0, none⟩ ∧ ca = some ⟨b, 0, none⟩ ∧ wr.cell? ⟨b, k * 2, none⟩ = some (.int .i64 ((n : Nat) : Int)) ∧ wr.cell? ⟨b, k * 2 + 1, none⟩ = some (.slice va vn vp) ∧ n < N ∧ (∃ u, wr.cell? ⟨g, n, none⟩ = some u) ∧ wr.frozen? ⟨g, n, none⟩ = false ∧ Stl wa (wr.setCell ⟨g, n, none⟩ (.slice va vn vp)) p vl Ls vc Cs f S.op3 yes (k + 1)) := by
    intro wa wr k hst hk
    obtain ⟨Lt, hr, -⟩ := hst.at'
    have hk' : k < S.ws.length := by rw [← HM.out]; exact hk
    have hx := List.getElem?_eq_getElem hk'
    have hC : k < Cs.length := by rw [h.cle]; exact hk'
    have hv := List.getElem?_eq_getElem hC
    have hxg := h.good.ws _ (List.mem_of_getElem? hx)
    obtain ⟨b, cap', e1, -, -, -, HR, -⟩ := row_at hr.cac (by show 0 < S.ws.length; omega)
    have ha := rwc_at S.ws Cs k _ _ hx hv
    have hln : (settled S.ls S.ws yes k).length = S.ls.length := settled_len _ _ _ _
    obtain ⟨g, cap2, e2, -, -, -, HL, HF⟩ := row_at hr.las (by show 0 < (settled S.ls S.ws yes k).length; omega)
    have hLt : S.ws[k].1 < Lt.length := by rw [hr.lle]; show _ < (settled S.ls S.ws yes k).length; rw [hln]; exact hxg.1
    have e2' := e2
    rw [hvc] at e1
    rw [hvl] at e2
    injection e1 with e1
    injection e2 with e2
    obtain ⟨va, vp, ev, -⟩ := (hr.csl k _ _ hx hv).shape
    rw [ev] at hv ha
    exact ⟨b, g, S.ws[k].1, va, _, vp, e2, e1, HR.out _ _ ha.1, HR.out _ _ ha.2, by rw [HN.out]; exact hxg.1, ⟨_, HL.out _ _ (List.getElem?_eq_getElem hLt)⟩, HF.out _, hst.take rfl e2' _ _ hx hv hxg.2.1 hxg.2.2⟩
  have HC0 : Hid (∀ wa wr k, Stl wa wr p vl Ls vc Cs f S.op3 yes k → wr.cell? ⟨p, 0, none⟩ = some (.slice la N lc) ∧ wr.cell? ⟨p, 1, none⟩ = some (.slice ca M cc) ∧ wr.frozen? ⟨p, 1, none⟩ = false) := by
    intro wa wr k hst
    obtain ⟨Lt, hr, -⟩ := hst.at'
    exact ⟨by rw [← hvl]; exact hr.c 0 vl rfl, by rw [← hvc]; exact hr.c 1 vc rfl, hr.fz 1⟩
  have HF : Hid (∀ wa wr, Mv (fun k => k = p ∨ k = f) w wa → Stl wa wr p vl Ls vc Cs f S.op3 yes M → ∃ Lt, RD (wr.setCell ⟨p, 1, none⟩ (.slice none 0 0)) p vl Lt (.slice none 0 0) [] f (S.op3.set yes) ∧ (∀ v ∈ Lt, v ∈ Ls ∨ v ∈ Cs) ∧ Mv (fun k => k = p ∨ k = f ∨ vl.ownBlock = some k) w (wr.setCell ⟨p, 1, none⟩ (.slice none 0 0))) := by
    intro wa wr hma hst
    obtain ⟨Lt, hr, hm⟩ := hst.at'
    have hs := sets_mv p [(1, .slice none 0 0)] wr
    refine ⟨Lt, hr.clear (S' := S.op3.set yes) (by show settled S.ls S.ws yes S.ws.length = settled S.ls S.ws yes M; rw [HM.out]) rfl (h.good.op3 hn |>.set yes) f (hs.mono' fun k hk => .inl hk) ?_ ?_, hm, ?_⟩
    · have := sets_blk p 88 [(1, .slice none 0 0)] wr _ hr.blk
      rw [show sets wr p [(1, .slice none 0 0)] = wr.setCell ⟨p, 1, none⟩ (.slice none 0 0) from rfl] at this
      rw [this]
      simp [rcells, DS.set, DS.las]
    · exact (sets_other p f (fun e => hr.pf e.symm) [(1, .slice none 0 0)] wr).trans hr.fau
    · exact ((hma.mono' fun k hk => hk.elim .inl (fun h => .inr (.inl h))).trans' ((hst.mv.mono' fun k hk => .inr (.inr hk)).trans' (hs.mono' fun k hk => .inl hk)))
  clear h hn he hvl hvc
  go_enter Tryz.func24, Tryz.ntmps24
  go_wp2_with fail
  refine HB.out.mono ?_
  rintro e w1 ⟨rfl, hh⟩
  have HH := hide hh.2
  have HS := hide (Stl.start yes hh.1)
  clear hh
  have c01 := HC0.out w1 w1 0 HS.out
  obtain ⟨c0, c1, z1⟩ := c01
  go_wp2
  clear c0 c1 z1
  go_loopw [4] (fun i wr' => ∃ k : Nat, k ≤ M ∧ i = .int .i64 (k : Int) ∧ Stl w1 wr' p vl Ls vc Cs f S.op3 yes k) (fun i _ => M - (intOf i).toNat)
  case atStart => exact ⟨0, Nat.zero_le _, rfl, HS.out⟩
  case round =>
    obtain ⟨k, hk, rfl, hst⟩ := hrel
    obtain ⟨c0, c1, z1⟩ := HC0.out w1 wr k hst
    have HSt := hide hst
    clear hst
    by_cases hlt : k < M
    · have hnb : decide (k < M) = true := by simp [hlt]
      obtain ⟨b, g, n, va, vn, vp, rfl, rfl, d0, d1, hn, ⟨u, d2⟩, d3, hs2⟩ := HC.out w1 wr.drew k HSt.out.drew hlt
      have HS2 := hide hs2
      have d0' : wr.cell? ⟨b, k * 2, none⟩ = some (.int .i64 (n : Int)) := d0
      have d1' : wr.cell? ⟨b, k * 2 + 1, none⟩ = some (.slice va vn vp) := d1
      have d2' : wr.cell? ⟨g, n, none⟩ = some u := d2
      have hnn : decide (n < N) = true := by simp [hn]
      clear hs2
      go_wp2
      go_region
      go_wp2
      go_roundw
      case rel => exact ⟨k + 1, by omega, by simp, HS2.out⟩
      case measure => simp [intOf]; omega
    · have e : k = M := by omega
      subst e
      have hnb : decide (k < k) = false := by simp
      have HE := hide (HF.out w1 wr HH.out HSt.out)
      go_wp2
      go_ret
      exact ⟨rfl, HE.out⟩
end Go.Proofs.YtobokocpapfjbaaGreat
/- Cut, of the document's own disk. -/
namespace Go.Proofs.YtobokocpapfjbaaGreat
open Go.RowKit Go.Maps
set_option linter.unusedVariables false
variable {w w' : World} {p f : Nat} {vl vc : Value} {Ls Cs : List Value} {S S' : DS}

theorem Stl.at_ {wa wr : World} {t : Nat → Bool} {k N M lc cc : Nat} {la ca : Option Addr} (hst : Stl wa wr p vl Ls vc Cs f S t k) (hk : k < S.ws.length) (hg : S.Good) (hcl : Cs.length = S.ws.length) (hvl : vl = .slice la N lc) (hvc : vc = .slice ca M cc) :
    ∃ b g n va vn vp, la = some ⟨g, 0, none⟩ ∧ ca = some ⟨b, 0, none⟩ ∧ wr.cell? ⟨b, k * 2, none⟩ = some (.int .i64 ((n : Nat) : Int)) ∧ wr.cell? ⟨b, k * 2 + 1, none⟩ = some (.slice va vn vp) ∧ n < S.ls.length ∧ (∃ u, wr.cell? ⟨g, n, none⟩ = some u) ∧ wr.frozen? ⟨g, n, none⟩ = false ∧ (t k = true → Stl wa (wr.setCell ⟨g, n, none⟩ (.slice va vn vp)) p vl Ls vc Cs f S t (k + 1)) := by
  obtain ⟨Lt, hr, -⟩ := hst.at'
  have hx := List.getElem?_eq_getElem hk
  have hC : k < Cs.length := by rw [hcl]; exact hk
  have hv := List.getElem?_eq_getElem hC
  have hxg := hg.ws _ (List.mem_of_getElem? hx)
  obtain ⟨b, cap', e1, -, -, -, HR, -⟩ := row_at hr.cac (by show 0 < S.ws.length; omega)
  have ha := rwc_at S.ws Cs k _ _ hx hv
  have hln : (settled S.ls S.ws t k).length = S.ls.length := settled_len _ _ _ _
  obtain ⟨g, cap2, e2, -, -, -, HL, HF⟩ := row_at hr.las (by show 0 < (settled S.ls S.ws t k).length; omega)
  have hLt : S.ws[k].1 < Lt.length := by rw [hr.lle]; show _ < (settled S.ls S.ws t k).length; rw [hln]; exact hxg.1
  have e2' := e2
  rw [hvc] at e1
  rw [hvl] at e2
  injection e1 with e1
  injection e2 with e2
  obtain ⟨va, vp, ev, -⟩ := (hr.csl k _ _ hx hv).shape
  rw [ev] at hv ha
  exact ⟨b, g, S.ws[k].1, va, _, vp, e2, e1, HR.out _ _ ha.1, HR.out _ _ ha.2, hxg.1, ⟨_, HL.out _ _ (List.getElem?_eq_getElem hLt)⟩, HF.out _, fun ht => hst.take ht e2' _ _ hx hv hxg.2.1 hxg.2.2⟩
theorem brow_mv {O : Nat → Prop} {a : Option Addr} {bs : List Bool} (h : BRow w a bs) (hm : Mv O w w') (ho : bs ≠ [] → ∀ ad, a = some ad → ¬ O ad.block) : BRow w' a bs := by
  rcases h with h0 | ⟨b, off, rfl, hlt, hc⟩
  · exact .inl h0
  · by_cases h0 : bs = []
    · exact .inl h0
    · exact .inr ⟨b, off, rfl, Nat.lt_of_lt_of_le hlt hm.size, fun i hi => (World.cell?_of_block (a := ⟨b, off + i, none⟩) (hm.block b hlt (ho h0 _ rfl))).trans (hc i hi)⟩
set_option maxHeartbeats 1600000 in
set_option maxRecDepth 1000000 in
theorem rcut_any (h : RD w p vl Ls vc Cs f S) (ka : Option Addr) (kc : Nat) (bs : List Bool) (hbr : BRow w ka bs) (hka : bs ≠ [] → ∀ ad, ka = some ad → vl.ownBlock ≠ some ad.block) (hbl : bs.length ≤ 9223372036854775807) :
    Calls Tryz.prog 28 #[.pointer (some ⟨p, 0, none⟩), .slice ka bs.length kc] w fun e w' => e = .returned (.tuple #[]) ∧ ∃ Lt f', RD w' p vl Lt (.slice none 0 0) [] f' (S.cut bs) ∧ (∀ v ∈ Lt, v ∈ Ls ∨ v ∈ Cs) ∧ w.heap.size ≤ f' ∧ Mv (fun k => k = p ∨ vl.ownBlock = some k) w w' := by
  obtain ⟨N, HN, hNm⟩ : ∃ N, Hid (N = S.ls.length) ∧ N ≤ 131072 := ⟨_, rfl, h.good.most⟩
  obtain ⟨M, HM, hMm⟩ : ∃ M, Hid (M = S.ws.length) ∧ M ≤ 1000000 := ⟨_, rfl, h.good.few⟩
  obtain ⟨la, lc, hvl⟩ := row_len h.las
  rw [← HN.out] at hvl
  obtain ⟨ca, cc, hvc⟩ := row_len h.cac
  rw [← HM.out] at hvc
  obtain ⟨B, HBn⟩ : ∃ B, Hid (B = bs.length) := ⟨_, rfl⟩
  rw [← HBn.out] at hbl ⊢
  have HC : Hid (∀ wr k, Stl w wr p vl Ls vc Cs f S (kp bs) k → k < M → ∃ b g n va vn vp, la = some ⟨g, 0, none⟩ ∧ ca = some ⟨b, 0, none⟩ ∧ wr.cell? ⟨b, k * 2, none⟩ = some (.int .i64 ((n : Nat) : Int)) ∧ wr.cell? ⟨b, k * 2 + 1, none⟩ = some (.slice va vn vp) ∧ n < N ∧ (∃ u, wr.cell? ⟨g, n, none⟩ = some u) ∧ wr.frozen? ⟨g, n, none⟩ = false ∧ (kp bs k = true → Stl w (wr.setCell ⟨g, n, none⟩ (.slice va vn vp)) p vl Ls vc Cs f S (kp bs) (k + 1))) := by
    intro wr k hst hk
    rw [HN.out]
    exact hst.at_ (by rw [← HM.out]; exact hk) h.good h.cle hvl hvc
  have HK : Hid (∀ wr k, Stl w wr p vl Ls vc Cs f S (kp bs) k → k < B → ∃ c off, ka = some ⟨c, off, none⟩ ∧ wr.cell? ⟨c, off + k, none⟩ = some (.bool (kp bs k))) := by
    intro wr k hst hk
    have hk' : k < bs.length := by rw [← HBn.out]; exact hk
    rcases brow_mv hbr hst.mv (fun h0 ad e => hka h0 ad e) with h0 | ⟨c, off, e, -, hc⟩
    · rw [h0] at hk'; simp at hk'
    · exact ⟨c, off, e, hc k hk'⟩
  have HNo : Hid (∀ k, ¬ k < B → kp bs k = false) := fun k hk => by
    rw [kp, List.getD_eq_getElem?_getD, List.getElem?_eq_none (by rw [← HBn.out]; omega)]; rfl
  have HC0 : Hid (∀ wr k, Stl w wr p vl Ls vc Cs f S (kp bs) k → wr.cell? ⟨p, 0, none⟩ = some (.slice la N lc) ∧ wr.cell? ⟨p, 1, none⟩ = some (.slice ca M cc) ∧ (∀ i, wr.frozen? ⟨p, i, none⟩ = false) ∧ wr.cell? ⟨p, 2, none⟩ = some (.bool S.dk) ∧ wr.cell? ⟨p, 3, none⟩ = some (.int .i64 (ft S.ts S.tl)) ∧ wr.cell? ⟨p, 4, none⟩ = some (.slice (some ⟨f, 0, none⟩) 4 4)) := by
    intro wr k hst
    obtain ⟨Lt, hr, -⟩ := hst.at'
    exact ⟨by rw [← hvl]; exact hr.c 0 vl rfl, by rw [← hvc]; exact hr.c 1 vc rfl, hr.fz, hr.c 2 _ rfl, hr.c 3 _ rfl, hr.c 4 _ rfl⟩
  have HF : Hid (∀ wr, Stl w wr p vl Ls vc Cs f S (kp bs) M → ((((wr.setCell ⟨p, 1, none⟩ (.slice none 0 0)).setCell ⟨p, 2, none⟩ (.bool false)).setCell ⟨p, 3, none⟩ (.int .i64 (-1))).alloc (.cells #[.int .i64 (-1), .int .i64 (-1), .int .i64 (-1), .int .i64 (-1)] 3)).cell? ⟨p, 4, none⟩ = some (.slice (some ⟨f, 0, none⟩) 4 4) ∧ ((((wr.setCell ⟨p, 1, none⟩ (.slice none 0 0)).setCell ⟨p, 2, none⟩ (.bool false)).setCell ⟨p, 3, none⟩ (.int .i64 (-1))).alloc (.cells #[.int .i64 (-1), .int .i64 (-1), .int .i64 (-1), .int .i64 (-1)] 3)).frozen? ⟨p, 4, none⟩ = false ∧ ∃ Lt f', RD (((((wr.setCell ⟨p, 1, none⟩ (.slice none 0 0)).setCell ⟨p, 2, none⟩ (.bool false)).setCell ⟨p, 3, none⟩ (.int .i64 (-1))).alloc (.cells #[.int .i64 (-1), .int .i64 (-1), .int .i64 (-1), .int .i64 (-1)] 3)).setCell ⟨p, 4, none⟩ (.slice (some ⟨wr.heap.size, 0, none⟩) 4 4)) p vl Lt (.slice none 0 0) [] f' (S.cut bs) ∧ (∀ v ∈ Lt, v ∈ Ls ∨ v ∈ Cs) ∧ w.heap.size ≤ f' ∧ Mv (fun k => k = p ∨ vl.ownBlock = some k) w (((((wr.setCell ⟨p, 1, none⟩ (.slice none 0 0)).setCell ⟨p, 2, none⟩ (.bool false)).setCell ⟨p, 3, none⟩ (.int .i64 (-1))).alloc (.cells #[.int .i64 (-1), .int .i64 (-1), .int .i64 (-1), .int .i64 (-1)] 3)).setCell ⟨p, 4, none⟩ (.slice (some ⟨wr.heap.size, 0, none⟩) 4 4))) := by
    intro wr hst
    obtain ⟨Lt, hr, hm⟩ := hst.at'
    have hpl := hr.lt p (.inl rfl)
    obtain ⟨W1, hW1⟩ : ∃ W1, W1 = sets wr p [(1, .slice none 0 0), (2, .bool false), (3, .int .i64 (-1))] := ⟨_, rfl⟩
    have hm1 : Mv (· = p) wr W1 := by rw [hW1]; exact sets_mv p _ wr
    have hs1 : W1.heap.size = wr.heap.size := by rw [hW1]; simp [sets]
    have hb1 : W1.heap[p]? = some (.cells #[vl, .slice none 0 0, .bool false, .int .i64 (-1), .slice (some ⟨f, 0, none⟩) 4 4, .int .i64 S.n1, .int .i64 S.n2, .int .i64 S.n3] 88 (0, 0)) := by
      rw [hW1, sets_blk p 88 _ wr _ hr.blk]; simp [rcells, DS.las]
    have hb2 := (Below.heap_alloc W1 (.cells #[.int .i64 (-1), .int .i64 (-1), .int .i64 (-1), .int .i64 (-1)] 3) p (by omega)).trans hb1
    have hb3 := heap_alloc_new W1 (.cells #[.int .i64 (-1), .int .i64 (-1), .int .i64 (-1), .int .i64 (-1)] 3)
    rw [show ((((wr.setCell ⟨p, 1, none⟩ (.slice none 0 0)).setCell ⟨p, 2, none⟩ (.bool false)).setCell ⟨p, 3, none⟩ (.int .i64 (-1))).alloc (.cells #[.int .i64 (-1), .int .i64 (-1), .int .i64 (-1), .int .i64 (-1)] 3)) = W1.alloc (.cells #[.int .i64 (-1), .int .i64 (-1), .int .i64 (-1), .int .i64 (-1)] 3) by rw [hW1]; rfl]
    have hmv : Mv (fun k => k = p) wr ((W1.alloc (.cells #[.int .i64 (-1), .int .i64 (-1), .int .i64 (-1), .int .i64 (-1)] 3)).setCell ⟨p, 4, none⟩ (.slice (some ⟨wr.heap.size, 0, none⟩) 4 4)) := (hm1.on (below_alloc W1 _)).trans' (sets_mv p [(4, .slice (some ⟨wr.heap.size, 0, none⟩) 4 4)] _)
    refine ⟨by simp [World.cell?, hb2], by simp [World.frozen?, hb2], Lt, wr.heap.size, hr.clear (S' := S.cut bs) (by show settled S.ls S.ws (kp bs) S.ws.length = settled S.ls S.ws (kp bs) M; rw [HM.out]) rfl (h.good.cut bs) wr.heap.size (hmv.mono' fun k hk => .inl hk) ?_ ?_, hm, hst.mv.size, (hst.mv.mono' fun k hk => .inr hk).trans' (hmv.mono' fun k hk => .inl hk)⟩
    · have := sets_blk p 88 [(4, .slice (some ⟨wr.heap.size, 0, none⟩) 4 4)] _ _ hb2
      refine this.trans ?_
      simp [rcells, DS.cut, DS.set, ft]
    · rw [← hs1]
      refine (sets_other p W1.heap.size (by omega) [(4, .slice (some ⟨W1.heap.size, 0, none⟩) 4 4)] _).trans (hb3.trans ?_)
      simp [fcells, DS.cut, ft]
  have HS := hide (Stl.start (kp bs) h)
  obtain ⟨c0, c1, -, -, -, -⟩ := HC0.out w 0 HS.out
  clear h hbr hka hvl hvc
  go_enter Tryz.func28, Tryz.ntmps28
  go_wp2
  clear c0 c1
  go_loopw [4] (fun i wr' => ∃ k : Nat, k ≤ M ∧ i = .int .i64 (k : Int) ∧ Stl w wr' p vl Ls vc Cs f S (kp bs) k) (fun i _ => M - (intOf i).toNat)
  case atStart => exact ⟨0, Nat.zero_le _, rfl, HS.out⟩
  case round =>
    obtain ⟨k, hk, rfl, hst⟩ := hrel
    obtain ⟨c0, c1, hz, c2, c3, c4⟩ := HC0.out wr k hst
    have HSt := hide hst
    clear hst
    by_cases hlt : k < M
    · have hnb : decide (k < M) = true := by simp [hlt]
      by_cases hkB : k < B
      · obtain ⟨c, off, rfl, dk⟩ := HK.out wr k HSt.out hkB
        have hkb : decide (k < B) = true := by simp [hkB]
        cases hkp : kp bs k
        · rw [hkp] at dk
          have HS2 := hide (HSt.out.skip hkp)
          clear hkp c2 c3 c4 hz
          go_wp2
          exact ⟨⟨k + 1, by omega, by simp, HS2.out⟩, by simp [intOf]; omega⟩
        · rw [hkp] at dk
          obtain ⟨b, g, n, va, vn, vp, rfl, rfl, d0, d1, hn, ⟨u, d2⟩, d3, hs2⟩ := HC.out wr.drew k HSt.out.drew hlt
          have HS2 := hide (hs2 hkp)
          have d0' : wr.cell? ⟨b, k * 2, none⟩ = some (.int .i64 (n : Int)) := d0
          have d1' : wr.cell? ⟨b, k * 2 + 1, none⟩ = some (.slice va vn vp) := d1
          have d2' : wr.cell? ⟨g, n, none⟩ = some u := d2
          have hnn : decide (n < N) = true := by simp [hn]
          clear hs2 hkp c2 c3 c4 hz
          go_wp2
          go_region
          go_wp2
          go_roundw
          case rel => exact ⟨k + 1, by omega, by simp, HS2.out⟩
          case measure => simp [intOf]; omega
      · have hkb : decide (k < B) = false := by simp; omega
        have HS2 := hide (HSt.out.skip (HNo.out k hkB))
        clear c2 c3 c4 hz
        go_wp2
        exact ⟨⟨k + 1, by omega, by simp, HS2.out⟩, by simp [intOf]; omega⟩
    · have e : k = M := by omega
      subst e
      have hnb : decide (k < k) = false := by simp
      have z1 := hz 1
      have z2 := hz 2
      have z3 := hz 3
      have z4 := hz 4
      obtain ⟨k4, z4', hfi⟩ := HF.out wr HSt.out
      have HE := hide hfi
      clear hz hfi
      go_wp2
      go_end0
      exact ⟨rfl, HE.out⟩
end Go.Proofs.YtobokocpapfjbaaGreat
