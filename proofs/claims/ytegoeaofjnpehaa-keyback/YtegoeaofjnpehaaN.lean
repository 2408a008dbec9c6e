/- The reader: what a text has, up to what ends it. -/
import Derived.Test.YtegoeaofjnpehaaL
namespace Go.Proofs.Ytegoeaofjnpehaa
open Go.RowKit
set_option linter.unusedVariables false

theorem head_at (bs : List Int) (m : Int) (i : Nat) (x : Int) (rest : List Int) (h : (bs.drop i).map (tn m) = x :: rest) : i < bs.length ∧ tn m (bs.getD i 0) = x ∧ (bs.drop (i + 1)).map (tn m) = rest := by
  have hi : i < bs.length := by
    have := congrArg List.length h
    simp at this
    omega
  rw [List.drop_eq_getElem_cons hi, List.map_cons] at h
  obtain ⟨h1, h2⟩ := List.cons.inj h
  refine ⟨hi, ?_, h2⟩
  rw [List.getD_eq_getElem?_getD, List.getElem?_eq_getElem hi]
  exact h1
theorem esc_cons (c : Int) (l : List Int) : esc (c :: l) = (if c = 0 then [0, 255] else [c]) ++ esc l := by simp [esc]
theorem drop_cons' (ys : List Int) (k : Nat) (h : k < ys.length) : ys.drop k = ys.getD k 0 :: ys.drop (k + 1) := by
  rw [List.drop_eq_getElem_cons h, List.getD_eq_getElem?_getD, List.getElem?_eq_getElem h]; rfl
def lenV : Value → Nat
  | .slice _ n _ => n
  | _ => 0
theorem grown_new {w a b : World} {p : Nat} {r : Option Nat} (h : w.grownBy a (some p)) (k : a.grownBy b r) (hr : ∀ j, r = some j → w.heap.size ≤ j) : w.grownBy b (some p) :=
  ⟨k.os.trans h.os, k.tape.trans h.tape, k.output.trans h.output, Nat.le_trans h.size k.size, fun i hi hn => (k.block i (Nat.lt_of_lt_of_le hi h.size) (fun e => by have := hr i e.symm; omega)).trans (h.block i hi hn)⟩
/-- all that the reader has lies below B. -/
structure Low (B p q : Nat) (a : Option Addr) : Prop where
  p : p < B
  q : q < B
  a : ∀ ad, a = some ad → ad.block < B
theorem Rdr.low {w : World} {p : Nat} {a : Option Addr} {cap : Nat} {bs : List Int} {i n q : Nat} {m : Int} (h : Rdr w p a cap bs i n q m) (h0 : bs ≠ []) : Low w.heap.size p q a := by
  refine ⟨h.lt, lt_of_block h.tq, fun ad e => ?_⟩
  rcases h.row with h1 | ⟨b, o, rfl, hlt, _⟩
  · exact absurd h1 h0
  · cases e; exact hlt
theorem Rdr.grown {w w' : World} {p : Nat} {a : Option Addr} {cap : Nat} {bs : List Int} {i n q : Nat} {m : Int} {B : Nat} {r : Option Nat} (h : Rdr w p a cap bs i n q m) (hl : Low B p q a) (hg : w.grownBy w' r) (hr : ∀ k, r = some k → B ≤ k) : Rdr w' p a cap bs i n q m := by
  have hb : ∀ k, k < B → k < w.heap.size → w'.heap[k]? = w.heap[k]? := fun k hk hw => hg.block k hw (fun e => by have := hr k e.symm; omega)
  refine ⟨(hb p hl.p h.lt).trans h.blk, ?_, h.byts, h.off, (hb q hl.q (lt_of_block h.tq)).trans h.tq, h.le, h.small, h.many, h.md⟩
  rcases h.row with h1 | ⟨b, o, rfl, hlt, hc⟩
  · exact .inl h1
  · exact .inr ⟨b, o, rfl, Nat.lt_of_lt_of_le hlt hg.size, fun j hj => (World.cell?_of_block (a := ⟨b, o + j, none⟩) (hb b (hl.a _ rfl) hlt)).trans (hc j hj)⟩
theorem OwnB.grown {B p : Nat} {w w' : World} {v : Value} {zs : List Int} (h : OwnB B w v zs) (hg : w.grownBy w' (some p)) (hp : p < B) : OwnB B w' v zs :=
  ⟨h.own.of_block fun k hk => hg.block k (h.own.lt hk) (fun e => by have := h.new k hk; cases e; omega), h.new⟩

theorem app_close {B p q n i cap : Nat} {a : Option Addr} {bs : List Int} {m : Int} {w W2 w1 : World} {v v' : Value} {zs ys : List Int} {o : Obj} (hB : w.heap.size = B) (hlo : Low B p q a) (hr : Rdr W2 p a cap bs i n q m) (hg : w.grownBy W2 (some p)) (ho : OwnB B W2 v zs) (hown : Own w1 v' ys)
    (hga : (W2.alloc o).grownBy w1 v.ownBlock) (hf : ∀ k, v'.ownBlock = some k → v.ownBlock = some k ∨ (W2.alloc o).heap.size ≤ k) : OwnB B w1 v' ys ∧ Rdr w1 p a cap bs i n q m ∧ w.grownBy w1 (some p) := by
  have hsz : B ≤ W2.heap.size := by rw [← hB]; exact hg.size
  refine ⟨⟨hown, fun k hk => (hf k hk).elim (ho.new k) (fun hs => by simp at hs; omega)⟩, (hr.below (below_alloc _ _)).grown hlo hga ho.new, grown_new (grown_trans hg (grown_below (below_alloc _ _))) hga (fun k hk => by rw [hB]; exact ho.new k hk)⟩
set_option maxHeartbeats 3200000 in
set_option maxRecDepth 1000000 in
theorem content_in (p : Nat) (a : Option Addr) (cap : Nat) (bs : List Int) (i n q : Nat) (m : Int) (ys rest : List Int) (w : World) (hr : Rdr w p a cap bs i n q m) (hE : (bs.drop i).map (tn m) = esc ys ++ 0 :: 1 :: rest) (hy : Byts ys) (hl : ys.length ≤ 4000) :
    Calls Try.prog 42 #[.pointer (some ⟨p, 0, none⟩)] w fun e w' => ∃ a' c', e = .returned (.tuple #[.slice a' ys.length c', .bool true]) ∧ OwnB w.heap.size w' (.slice a' ys.length c') ys ∧ Rdr w' p a cap bs (i + (esc ys).length + 2) n q m ∧ w.grownBy w' (some p) := by
  obtain ⟨i0, hi, hz0, hz1, hz2⟩ := info_parts Try.info5
  have hne : bs ≠ [] := fun e => by subst e; simp at hE
  have HLo := hide (hr.low hne)
  have HR := hide hr
  have HE := hide hE
  have HY := hide hy
  clear hr hE hy hne
  generalize hB : w.heap.size = B at *
  have HBB := hide hB
  clear hB
  go_enter Try.func42, Try.ntmps42
  go_wp2
  go_loopw [4] (fun o wr => ∃ k : Nat, k ≤ ys.length ∧ OwnB B wr o (ys.take k) ∧ Rdr wr p a cap bs (i + (esc (ys.take k)).length) n q m ∧ (bs.drop (i + (esc (ys.take k)).length)).map (tn m) = esc (ys.drop k) ++ 0 :: 1 :: rest ∧ w.grownBy wr (some p)) (fun o _ => ys.length + 1 - lenV o)
  case atStart => exact ⟨0, by omega, ⟨Own.nil _, fun k h => by simp [Value.ownBlock] at h⟩, by simpa [esc] using HR.out, by simpa [esc] using HE.out, grown_refl _ _⟩
  case round =>
    obtain ⟨k, hk, hown, hrd, hdr, hg⟩ := hrel
    obtain ⟨a1, n1, c1, rfl, HN1⟩ := hown.own.shape2
    have hn1 : n1 = k := by rw [HN1.out, List.length_take]; omega
    subst hn1
    have HO := hide hown
    have HRd := hide hrd
    have HG := hide hg
    have HDr := hide hdr
    clear hown hrd hg hdr HR HN1
    have hdl : decide ((n1 : Int) ≤ 4000) = true := by simp; omega
    by_cases hlt : n1 < ys.length
    · have hd0 := HDr.out
      rw [drop_cons' ys n1 hlt, esc_cons] at hd0
      have hby := HY.out.at n1
      have HTs := hide (take_snoc ys n1 hlt)
      have HEs := hide ((congrArg esc HTs.out).trans (esc_snoc _ _))
      by_cases hc0 : ys.getD n1 0 = 0
      · rw [hc0] at hd0 HTs HEs
        simp only [if_true, List.cons_append, List.nil_append] at hd0 HEs
        obtain ⟨h1, h2, h3⟩ := head_at _ _ _ _ _ hd0
        obtain ⟨h4, h5, h6⟩ := head_at _ _ _ _ _ h3
        have HA1 := hide h2
        have HA2 := hide h5
        have HA3 := hide h6
        clear hd0 h2 h3 h5 h6 hc0 hby
        go_wp2_with fail
        refine (next_in p a cap bs _ n q m wr HRd.out h1).mono ?_
        rintro e W1 ⟨rfl, hrd1, hg1⟩
        have HR1 := hide hrd1
        have HG1 := hide (grown_trans HG.out hg1)
        have HO1 := hide (HO.out.grown hg1 HLo.out.p)
        clear hrd1 hg1 HG HO
        rw [HA1.out]
        go_wp2_with fail
        refine (next_in p a cap bs _ n q m W1 HR1.out h4).mono ?_
        rintro e W2 ⟨rfl, hrd2, hg2⟩
        have HR2 := hide hrd2
        have HG2 := hide (grown_trans HG1.out hg2)
        have HO2 := hide (HO1.out.grown hg2 HLo.out.p)
        clear hrd2 hg2 HG1 HO1 HR1
        rw [HA2.out]
        go_wp2_with (at_builtin; refine wpList_append_src (by rfl) (.tmp 38) (.tmp 40) 25 25 (by rfl) i0 Try.underlying25 hi hz0 hz1 hz2 (.slice a1 n1 c1) (ys.take n1) (by rfl) (HO2.out.own.alloc _) (.slice (some ⟨W2.heap.size, 0, none⟩) 1 1) 1 [0] (by rfl) (src_one _ _) (by simp; omega) ?_; intro v' w1 hown1 hg1 hf1; obtain ⟨a3, n3, c3, rfl, HN3⟩ := hown1.shape2; have HGa := hide hg1; have HFa := hide hf1; have HOa := hide hown1; clear hown1 hg1 hf1)
        have HCl := hide (app_close HBB.out HLo.out HR2.out HG2.out HO2.out HOa.out HGa.out HFa.out)
        have hlen : (esc (ys.take (n1 + 1))).length = (esc (ys.take n1)).length + 1 + 1 := by rw [HEs.out]; simp
        have hn3 : n3 = n1 + 1 := by rw [HN3.out]; simp; omega
        go_roundw
        case rel => exact ⟨n1 + 1, by omega, by rw [HTs.out]; exact HCl.out.1, by rw [hlen]; exact HCl.out.2.1, by rw [hlen]; exact HA3.out, HCl.out.2.2⟩
        case measure => simp [lenV]; omega
      · rw [if_neg hc0] at hd0
        have HEs' := hide (HEs.out.trans (by rw [if_neg hc0]))
        simp only [List.cons_append, List.nil_append] at hd0
        obtain ⟨h1, h2, h3⟩ := head_at _ _ _ _ _ hd0
        have HA1 := hide h2
        have HA3 := hide h3
        have hcb : (ys.getD n1 0 == 0) = false := by simp only [beq_eq_false_iff_ne]; exact hc0
        have HBy := hide hby
        clear hd0 h2 h3 hc0 hby HEs
        go_wp2_with fail
        refine (next_in p a cap bs _ n q m wr HRd.out h1).mono ?_
        rintro e W1 ⟨rfl, hrd1, hg1⟩
        have HR1 := hide hrd1
        have HG1 := hide (grown_trans HG.out hg1)
        have HO1 := hide (HO.out.grown hg1 HLo.out.p)
        clear hrd1 hg1 HG HO
        rw [HA1.out]
        generalize hgc : ys.getD n1 0 = c at *
        clear hgc
        go_wp2_with (at_builtin; refine wpList_append_src (by rfl) (.tmp 38) (.tmp 40) 25 25 (by rfl) i0 Try.underlying25 hi hz0 hz1 hz2 (.slice a1 n1 c1) (ys.take n1) (by rfl) (HO1.out.own.alloc _) (.slice (some ⟨W1.heap.size, 0, none⟩) 1 1) 1 [c] (by rfl) (src_one _ _) (by simp; omega) ?_; intro v' w1 hown1 hg1 hf1; obtain ⟨a3, n3, c3, rfl, HN3⟩ := hown1.shape2; have HGa := hide hg1; have HFa := hide hf1; have HOa := hide hown1; clear hown1 hg1 hf1)
        have HCl := hide (app_close HBB.out HLo.out HR1.out HG1.out HO1.out HOa.out HGa.out HFa.out)
        have hlen : (esc (ys.take (n1 + 1))).length = (esc (ys.take n1)).length + 1 := by rw [HEs'.out]; simp
        have hn3 : n3 = n1 + 1 := by rw [HN3.out]; simp; omega
        go_roundw
        case rel => exact ⟨n1 + 1, by omega, by rw [HTs.out]; exact HCl.out.1, by rw [hlen]; exact HCl.out.2.1, by rw [hlen]; exact HA3.out, HCl.out.2.2⟩
        case measure => simp [lenV]; omega
    · have hke : ys.take n1 = ys := List.take_of_length_le (by omega)
      have hkd : ys.drop n1 = [] := List.drop_eq_nil_of_le (by omega)
      have hd0 := HDr.out
      rw [hke, hkd] at hd0
      rw [hke] at HO HRd
      simp only [esc, List.flatMap_nil, List.nil_append] at hd0
      obtain ⟨h1, h2, h3⟩ := head_at _ _ _ _ _ hd0
      obtain ⟨h4, h5, h6⟩ := head_at _ _ _ _ _ h3
      have HA1 := hide h2
      have HA2 := hide h5
      have hnl : n1 = ys.length := by omega
      have HNl := hide hnl
      clear hd0 h2 h3 h5 h6 hke hkd hnl
      go_wp2_with fail
      refine (next_in p a cap bs _ n q m wr HRd.out h1).mono ?_
      rintro e W1 ⟨rfl, hrd1, hg1⟩
      have HR1 := hide hrd1
      have HG1 := hide (grown_trans HG.out hg1)
      have HO1 := hide (HO.out.grown hg1 HLo.out.p)
      clear hrd1 hg1 HG HO
      have hA1 : tn m (bs.getD (i + (esc ys).length) 0) = 0 := HA1.out
      rw [hA1]
      clear hA1
      go_wp2_with fail
      refine (next_in p a cap bs _ n q m W1 HR1.out h4).mono ?_
      rintro e W2 ⟨rfl, hrd2, hg2⟩
      have HR2 := hide hrd2
      have HG2 := hide (grown_trans HG1.out hg2)
      have HO2 := hide (HO1.out.grown hg2 HLo.out.p)
      clear hrd2 hg2 HG1 HO1 HR1
      have hA2 : tn m (bs.getD (i + (esc ys).length + 1) 0) = 1 := HA2.out
      rw [hA2]
      clear hA2
      go_wp2
      go_ret2
      exact ⟨a1, c1, by rw [← HNl.out]; rfl, by rw [← HNl.out]; exact HO2.out, HR2.out, HG2.out⟩
end Go.Proofs.Ytegoeaofjnpehaa
