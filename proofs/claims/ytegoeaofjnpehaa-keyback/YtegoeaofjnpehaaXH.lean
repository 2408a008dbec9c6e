/- What KeyBack wants of the tuple that was read: its values are those that were written. -/
import Derived.Test.YtegoeaofjnpehaaXG
import Derived.Test.YtegoeaofjnpehaaWA
import Derived.Test.YtegoeaofjnpehaaVN
namespace Go.Proofs.Ytegoeaofjnpehaa
open Go.RowKit
set_option linter.unusedVariables false

theorem RowN.wider {n₀ n₁ : Nat} {W : World} {a : Option Addr} {zs : List Int} (h : n₀ ≤ n₁) (k : RowN n₀ W a zs) : RowN n₁ W a zs := by
  rcases k with k | ⟨b, o, rfl, hlt, hc⟩
  · exact .inl k
  · exact .inr ⟨b, o, rfl, by omega, hc⟩
mutual
theorem T.Mem.wider {n₀ n₁ : Nat} {W : World} (h : n₀ ≤ n₁) : ∀ {v : T}, v.Mem n₀ W → v.Mem n₁ W
  | .mk k bo n t ya yc y la lc l fa fc f, ⟨h1, h2, h3, h4, h5, h6, h7, h8, h9, h10⟩ => ⟨h1.wider h, h2, h3, h4, TL.Mem.wider h h5, h6, h7, FL.Mem.wider h h8, h9, h10⟩
theorem TL.Mem.wider {n₀ n₁ : Nat} {W : World} (h : n₀ ≤ n₁) {a : Option Addr} : ∀ {i : Nat} {l : TL}, l.Mem n₀ W a i → l.Mem n₁ W a i
  | _, .nil, _ => trivial
  | i, .cons v r, ⟨⟨b, o, h1, h2, h3⟩, h4, h5⟩ => ⟨⟨b, o, h1, Nat.lt_of_lt_of_le h2 h, h3⟩, T.Mem.wider h h4, TL.Mem.wider h h5⟩
theorem FL.Mem.wider {n₀ n₁ : Nat} {W : World} (h : n₀ ≤ n₁) {a : Option Addr} : ∀ {i : Nat} {l : FL}, l.Mem n₀ W a i → l.Mem n₁ W a i
  | _, .nil, _ => trivial
  | i, .cons s v r, ⟨⟨b, o, h1, h2, h6, h3⟩, h4, h5⟩ => ⟨⟨b, o, h1, Nat.lt_of_lt_of_le h2 h, h6, h3⟩, T.Mem.wider h h4, FL.Mem.wider h h5⟩
end
set_option maxHeartbeats 3200000 in
set_option maxRecDepth 1000000 in
theorem much_gen (n₀ : Nat) (la : Option Addr) (lc : Nat) (l : TL) (w : World) (hm : l.Mem n₀ w la 0) (hs : l.Szd) (hlen : l.list.length ≤ 9223372036854775807) (hn : n₀ ≤ w.heap.size) :
    Calls Try.prog 6 #[.slice la l.list.length lc] w fun e w' => (∃ β, e = .returned (.bool β) ∧ (β = false → l.list.length + l.wt ≤ 20000)) ∧ Below w.heap.size w w' := by
  have HM := hide hm
  have HSz := hide hs
  clear hm hs
  go_enter Try.func6, Try.ntmps6
  go_wp2
  go_loopw [3, 4] (fun s i wr => ∃ (r : Int) (j : Nat), s = .int .i64 r ∧ i = .int .i64 (j : Int) ∧ j ≤ l.list.length ∧ 0 ≤ r ∧ r ≤ 9223372036854775807 ∧ (r ≤ 20000 → r = (l.list.length : Int) + (sumL (l.list.take j) : Int)) ∧ Fr w.heap.size w wr) (fun s i _ => l.list.length - (intOf i).toNat)
  case atStart => exact ⟨_, 0, rfl, rfl, by omega, by omega, by omega, fun _ => by simp [sumL], Fr.refl w⟩
  case round =>
    obtain ⟨r, j, rfl, rfl, hj, hr0, hr1, hre, hfr⟩ := hrel
    have HRe := hide hre
    have HFr := hide hfr
    clear hre hfr
    by_cases hlt : j < l.list.length
    · by_cases hr2 : r ≤ 20000
      · obtain ⟨c, hc⟩ : ∃ c, l.list[j]? = some c := ⟨_, List.getElem?_eq_getElem hlt⟩
        have HTk := hide (take_next l.list j c hc)
        have hmem : c ∈ l.list := List.mem_of_getElem? hc
        have HMw := hide (HM.out.on (HFr.out.below.mono hn))
        have HMc := hide (TL.Mem.at l 0 HMw.out j c hc).2
        have hns : n₀ ≤ wr.heap.size := by have := HFr.out.size; omega
        have HIc := hide (fun W x => weight_gen n₀ c.sz c (Nat.le_refl _) (TL.Szd.at l HSz.out c hmem) W x)
        have HCw : Hid (((sumL (l.list.take (j + 1)) : Nat) : Int) = (sumL (l.list.take j) : Int) + (c.wt : Int)) := by rw [Hid, HTk.out, sumL_snoc]; simp
        clear hmem
        simp only [Wt] at HIc
        generalize c.wt = cw at *
        cases c with
        | mk ck cbo cn ct cya cyc cy cla clc cl cfa cfc cf =>
        obtain ⟨b', o', rfl, hb', c0, c1, c2, c3, c4, c5, c6⟩ := HMw.out.cells hc
        clear hc
        simp only [T.val] at HIc
        go_wp2_with fail
        refine (HIc.out wr r HMc.out hns (by omega)).mono ?_
        rintro e V ⟨⟨⟨r3, rfl, hq0, hq1, hq2⟩, hb3⟩, -⟩
        have HF3 := hide (HFr.out.on hb3)
        have HQ2 := hide hq2
        clear hb3 hq2 c0 c1 c2 c3 c4 c5 c6
        go_wp2
        go_roundw
        case rel => exact ⟨r3, j + 1, by go_num, by go_num, by omega, hq0, by omega, (fun h => by have h1 := HQ2.out h; have h2 := HRe.out hr2; have h3 := HCw.out; omega), HF3.out⟩
        case measure => simp [intOf]; omega
      · have hd : decide ((20000 : Int) < r) = true := by simp; omega
        go_wp2
        go_ret
        exact ⟨.inr rfl, HFr.out.below⟩
    · have hjl : l.list.take j = l.list := List.take_of_length_le (by omega)
      rw [hjl, ← TL.wt_is] at HRe
      clear hjl
      by_cases hr2 : r ≤ 20000
      · have hd : decide ((20000 : Int) < r) = false := by simp; omega
        go_wp2
        go_ret
        exact ⟨⟨false, by simp, fun _ => by have := HRe.out hr2; omega⟩, HFr.out.below⟩
      · have hd : decide ((20000 : Int) < r) = true := by simp; omega
        go_wp2
        go_ret
        exact ⟨.inr rfl, HFr.out.below⟩

mutual
theorem T.same_er : ∀ (u v : T), u.er = v.er → u.same v = true
  | .mk k bo n t ya yc y la lc l fa fc f, .mk k' bo' n' t' ya' yc' y' la' lc' l' fa' fc' f', h => by
    simp only [T.er, T.mk.injEq, true_and] at h
    obtain ⟨rfl, rfl, rfl, rfl, rfl, h6, h7⟩ := h
    simp [T.same, sameB, TL.same_er l l' h6, FL.same_er f f' h7]
theorem TL.same_er : ∀ (u v : TL), u.er = v.er → u.same v = true
  | .nil, .nil, _ => rfl
  | .nil, .cons _ _, h => by simp [TL.er] at h
  | .cons _ _, .nil, h => by simp [TL.er] at h
  | .cons u r, .cons v s, h => by
    simp only [TL.er, TL.cons.injEq] at h
    simp [TL.same, T.same_er u v h.1, TL.same_er r s h.2]
theorem FL.same_er : ∀ (u v : FL), u.er = v.er → u.same v = true
  | .nil, .nil, _ => rfl
  | .nil, .cons _ _ _, h => by simp [FL.er] at h
  | .cons _ _ _, .nil, h => by simp [FL.er] at h
  | .cons a u r, .cons b v s, h => by
    simp only [FL.er, FL.cons.injEq] at h
    simp [FL.same, h.1, T.same_er u v h.2.1, FL.same_er r s h.2.2]
end
theorem sameL_er : ∀ (l m : List T), l.map T.er = m.map T.er → sameL l m = true
  | [], [], _ => rfl
  | [], _ :: _, h => by simp at h
  | _ :: _, [], h => by simp at h
  | u :: r, v :: s, h => by
    simp only [List.map_cons, List.cons.injEq] at h
    simp [sameL, T.same_er u v h.1, sameL_er r s h.2]
theorem FL.er_nil (f : FL) : f.er.list = [] ↔ f.list = [] := by rw [FL.er_list]; simp
mutual
theorem T.nf_er : ∀ v : T, v.er.nf ↔ v.nf
  | .mk k bo n t ya yc y la lc l fa fc f => by simp only [T.er, T.nf, FL.er_nil, TL.nf_er l]
theorem TL.nf_er : ∀ l : TL, l.er.nf ↔ l.nf
  | .nil => Iff.rfl
  | .cons v r => by simp only [TL.er, TL.nf, T.nf_er v, TL.nf_er r]
end
mutual
theorem T.nf_cl : ∀ (v : T), v.cl → v.nf
  | .mk k bo n t ya yc y la lc l fa fc f, h => ⟨h.1, TL.nf_cl l h.2.2.2.2.2.2⟩
theorem TL.nf_cl : ∀ (l : TL), l.cl → l.nf
  | .nil, _ => trivial
  | .cons v r, h => ⟨T.nf_cl v h.1, TL.nf_cl r h.2⟩
end
theorem nf_of_er {v c : T} (h : v.er = c.er) (hc : oneE c = 0) : v.nf := by
  rw [← T.nf_er, h, T.nf_er]
  exact T.nf_cl c (one_cl c hc)
/-- all that the reader wants of a value. -/
def FineK (c : T) : Prop := oneE c = 0 ∧ c.gk ∧ c.wt ≤ 20000 ∧ c.sz ≤ 512 ∧ Byts c.enc
theorem fineK_of {n₀ : Nat} {W : World} (c : T) (h : oneE c = 0) (hm : c.Mem n₀ W) (hs : c.Szd) (hw : c.wt ≤ 20000) : FineK c := by
  have h1 := one_ok c h
  have h2 := T.gk_of c (one_cl c h) h1.1 hs hm (by omega)
  exact ⟨h, h2.1, hw, by omega, T.enc_byts c hm⟩
theorem FineK.ck {c : T} (h : FineK c) : ckE c = 0 := by
  have h1 := h.1
  unfold oneE at h1
  split at h1
  · assumption
  · omega
/-- the list that lies in the row o. -/
theorem owns_list {B : Nat} {w' : World} {oa : Option Addr} {n oc : Nat} {xs : List Value} {ts : List T} (ho : w'.ownsRow B 41 7 (.slice oa n oc) ts.length xs) (hs : StaysL B w' (.slice oa n oc) xs ts) (W : World) (hb : Below w'.heap.size w' W) : ∃ m : TL, m.list.length = ts.length ∧ m.Mem W.heap.size W oa 0 ∧ m.list.map T.er = ts.map T.er := by
  obtain ⟨vs, e1, e2, e3⟩ := hs W hb.size (fun k _ k2 _ => hb.block k k2)
  have hvl : vs.length = ts.length := by
    have := congrArg List.length e3
    simpa using this
  have sz := hb.size
  refine ⟨TL.ofL vs, by rw [TL.ofL_list]; exact hvl, ?_, by rw [TL.ofL_list]; exact e3⟩
  rcases ho.2 with ⟨h1, h2⟩ | ⟨g, cp, cur, h1, h2, h3, _⟩
  · have : vs = [] := List.eq_nil_of_length_eq_zero (by omega)
    subst this
    trivial
  · have ho' : oa = some ⟨g, 0, none⟩ := by injection h1
    subst ho'
    have hgl := lt_of_block h3
    refine ofL_mem (by omega) vs 0 (fun j u hu => ?_) e2
    rw [e1] at hu
    have h9 := ho.cells (g := g) rfl j u hu
    rw [Addr.add_lit] at h9
    rw [Nat.zero_mul]
    have hbk := hb.block g hgl
    simp only [World.cell?] at h9 ⊢
    rw [hbk]; exact h9
set_option maxHeartbeats 1600000 in
theorem decode_none (a da : Option Addr) (cap dn dc : Nat) (w : World) :
    Calls Try.prog 11 #[.slice a 0 cap, .slice da dn dc] w fun e w' => e = .returned (.tuple #[.slice none 0 0, .int .u16 0, .int .i64 0]) ∧ w' = w := by
  go_enter Try.func11, Try.ntmps11
  go_wp2
  go_loopw [7, 8] (fun l s wr => l = .slice none 0 0 ∧ s = .int .i64 0 ∧ wr = w) (fun _ _ _ => 0)
  case atStart => exact ⟨rfl, rfl, rfl⟩
  case round =>
    obtain ⟨rfl, rfl, rfl⟩ := hrel
    go_wp2
    go_ret3
    exact ⟨rfl, rfl⟩
theorem tupB_none (ds : List Bool) : ∀ (ts : List T) (i : Nat), (∀ c ∈ ts, FineK c) → (tupB ds i ts).length = 0 → ts = []
  | [], _, _, _ => rfl
  | c :: r, i, h, h0 => by
    have hc := h c (by simp)
    obtain ⟨h1, -⟩ := gk_head c hc.2.1
    have := congrArg List.length h1
    simp only [tupB, List.length_append, List.length_map, outp, hc.1, if_true, List.length_cons] at h0 this
    omega
/-- Decode of a tuple's bytes, and what SameValues says of what it gives. -/
theorem decode_back (n₀ : Nat) (la : Option Addr) (lc : Nat) (l : TL) (a : Option Addr) (cap : Nat) (da : Option Addr) (dc : Nat) (ds : List Bool) (w : World) (hl : l.Mem n₀ w la 0) (hll : l.list.length ≤ 4) (hts : ∀ c ∈ l.list, FineK c) (hrow : Row w a (tupB ds 0 l.list)) (hcap : (tupB ds 0 l.list).length ≤ cap) (hd : Bl n₀ w da ds) (hdl : ds.length ≤ 9223372036854775807) (hn : n₀ ≤ w.heap.size) :
    Calls Try.prog 11 #[.slice a (tupB ds 0 l.list).length cap, .slice da ds.length dc] w fun e w' => ∃ V, e = .returned (.tuple #[V, .int .u16 0, .int .i64 0]) ∧ Below w.heap.size w w' ∧ ∀ W, Below w'.heap.size w' W → Calls Try.prog 12 #[.slice la l.list.length lc, V] W fun e w' => e = .returned (.bool true) ∧ Below W.heap.size W w' := by
  by_cases h0 : (tupB ds 0 l.list).length = 0
  · have e0 := tupB_none ds l.list 0 hts h0
    have en := TL.nil_of' l e0
    rw [h0]
    refine (decode_none a da cap ds.length dc w).mono ?_
    rintro e w' ⟨rfl, rfl⟩
    refine ⟨_, rfl, Below.refl _ _, fun W hW => ?_⟩
    subst en
    exact sames_gen W.heap.size W la none lc 0 .nil .nil (Nat.le_refl _) trivial trivial (by simp [TL.list]) (by simp [TL.list]) (fun c hc => by simp [TL.list] at hc) (fun c hc => by simp [TL.list] at hc) true rfl
  · obtain ⟨b, o, rfl, -⟩ : ∃ b o, a = some ⟨b, o, none⟩ ∧ True := by
      rcases hrow with h | ⟨b, o, h, -⟩
      · rw [h] at h0; simp at h0
      · exact ⟨b, o, h, trivial⟩
    refine (decode_tup n₀ b o cap _ l.list da dc ds w hrow hcap hd hdl hn rfl hts hll).mono ?_
    rintro e w' ⟨v, xs, rfl, hown, hb, hst⟩
    obtain ⟨oa, oc, rfl⟩ := ownsRow_shape hown
    refine ⟨_, rfl, hb, fun W hW => ?_⟩
    obtain ⟨m, e1, e2, e3⟩ := owns_list hown hst W hW
    have hbw : Below w.heap.size w W := hb.trans (hW.mono hb.size)
    have h := sames_gen W.heap.size W la oa lc oc l m (Nat.le_refl _) (TL.Mem.wider (by have := hbw.size; omega) (hl.on (hbw.mono hn))) e2 (by omega) (by omega) (fun c hc => T.nf_cl c (one_cl c (hts c hc).1)) (fun v hv => by
      have h1 : v.er ∈ l.list.map T.er := by rw [← e3]; exact List.mem_map_of_mem hv
      obtain ⟨c, hc, h2⟩ := List.mem_map.1 h1
      exact nf_of_er h2.symm (hts c hc).1) true (sameL_er _ _ e3.symm)
    rw [e1] at h
    exact h
/-- Split, and what SameValue says of the value that it gives. -/
theorem split_back (n₀ b o cap : Nat) (ys : List Int) (c : T) (d : Bool) (w : World) (hm : c.Mem n₀ w) (hn : n₀ ≤ w.heap.size) (hc : FineK c) (hys : Byts ys) (hyl : ys.length ≤ 900000) (hrow : Row w (some ⟨b, o, none⟩) (c.enc.map (tn (mk d)) ++ ys)) (hcap : c.enc.length + ys.length ≤ cap) :
    Calls Try.prog 14 #[.slice (some ⟨b, o, none⟩) (c.enc.length + ys.length) cap, .bool d] w fun e w' => ∃ (v : T) (a : Option Addr) (n cp : Nat), e = .returned (.tuple #[v.val, .slice a n cp, .int .u16 0]) ∧ Below w.heap.size w w' ∧ Own w' (.slice a n cp) ys ∧ (∀ k, (Value.slice a n cp).ownBlock = some k → w.heap.size ≤ k) ∧ ∀ W, w'.heap.size ≤ W.heap.size → (∀ k, w.heap.size ≤ k → k < w'.heap.size → W.heap[k]? = w'.heap[k]?) → c.Mem n₀ W → Calls Try.prog 15 #[v.val, c.val] W fun e w' => e = .returned (.bool true) ∧ Below W.heap.size W w' := by
  have hlen : (c.enc.map (tn (mk d)) ++ ys).length = c.enc.length + ys.length := by simp
  have he := (one_ok c hc.1).2
  have h := split_in b o cap _ (ys.map (tn (mk d))) c d w hrow (Byts.append (fun x hx => by
    obtain ⟨y, hy, rfl⟩ := List.mem_map.1 hx
    exact tn_bd _ _ (hc.2.2.2.2 y hy) (by unfold mk; split <;> omega)) hys) (by rw [hlen]; omega) (by rw [hlen]; omega) (by rw [List.map_append, map_tn_tn d _ hc.2.2.2.2]) hc.2.1 hc.ck hc.2.2.1 hc.2.2.2.1
  rw [hlen] at h
  refine h.mono ?_
  rintro e w' ⟨V, a, n, cp, rfl, hb, ho, hk, hst⟩
  obtain ⟨v0, rfl, -⟩ := hst w' (Nat.le_refl _) (fun _ _ _ => rfl)
  refine ⟨v0, a, n, cp, rfl, hb, ?_, hk, fun W hs ha hcm => ?_⟩
  · have e1 : (c.enc.map (tn (mk d)) ++ ys).drop c.enc.length = ys := by
      have e2 : c.enc.length = (c.enc.map (tn (mk d))).length := by simp
      rw [e2, List.drop_left]
    rw [e1] at ho
    exact ho
  · obtain ⟨v, ev, m1, e1⟩ := hst W hs ha
    have sb := hb.size
    have h := samev_gen W.heap.size v.sz v c (Nat.le_refl _) (nf_of_er e1 hc.1) (T.nf_cl c (one_cl c hc.1)) W m1 (T.Mem.wider (by omega) hcm) (Nat.le_refl _)
    rw [T.same_er v c e1, ev] at h
    exact h
end Go.Proofs.Ytegoeaofjnpehaa
