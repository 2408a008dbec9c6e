/- Contract of Encode, of any tuple. -/
import Derived.Test.YtegoeaofjnpehaaVP
namespace Go.Proofs.Ytegoeaofjnpehaa
open Go.RowKit
set_option linter.unusedVariables false

/-- a row of bools that lies below n₀. -/
def Bl (n₀ : Nat) (W : World) (a : Option Addr) (ds : List Bool) : Prop :=
  ds = [] ∨ ∃ b off, a = some ⟨b, off, none⟩ ∧ b < n₀ ∧ ∀ i, i < ds.length → W.cell? ⟨b, off + i, none⟩ = some (.bool (ds.getD i false))
theorem Bl.on {n₀ : Nat} {A B : World} (hb : Below n₀ A B) {a : Option Addr} {ds : List Bool} (h : Bl n₀ A a ds) : Bl n₀ B a ds := by
  rcases h with h | ⟨b, o, rfl, hlt, hc⟩
  · exact .inl h
  · exact .inr ⟨b, o, rfl, hlt, fun i hi => (hb.cell (p := ⟨b, o + i, none⟩) hlt).trans (hc i hi)⟩
set_option maxHeartbeats 800000 in
theorem falls_any (n₀ : Nat) (a : Option Addr) (cap i : Nat) (ds : List Bool) (w : World) (hd : Bl n₀ w a ds) (hl : ds.length ≤ 9223372036854775807) :
    Calls Try.prog 19 #[.slice a ds.length cap, .int .i64 (i : Int)] w fun e w' => e = .returned (.bool (ds.getD i false)) ∧ w' = w := by
  by_cases hi : i < ds.length
  · rcases hd with h0 | ⟨b, o, rfl, _, hc⟩
    · subst h0; simp at hi
    · have g := hc i hi
      clear hc
      generalize ds.getD i false = x at *
      have hdd : decide ((i : Int) < (ds.length : Int)) = true := by simp; omega
      go_enter Try.func19, Try.ntmps19
      go_wp2
      go_ret
      exact ⟨rfl, rfl⟩
  · have e : ds.getD i false = false := by simp [List.getD_eq_getElem?_getD, List.getElem?_eq_none (Nat.le_of_not_lt hi)]
    rw [e]
    have hdd : decide ((i : Int) < (ds.length : Int)) = false := by simp; omega
    clear hd e
    go_enter Try.func19, Try.ntmps19
    go_wp2
    go_ret
    exact ⟨rfl, rfl⟩
/-- the bytes that One gives, none where it refuses. -/
def outp (v : T) : List Int := if oneE v = 0 then v.enc else []
/-- the bytes of a tuple's values one behind the other. -/
def tupB (ds : List Bool) : Nat → List T → List Int
  | _, [] => []
  | i, v :: r => (outp v).map (tn (mk (ds.getD i false))) ++ tupB ds (i + 1) r
theorem tupB_snoc (ds : List Bool) (l : List T) (c : T) : ∀ i, tupB ds i (l ++ [c]) = tupB ds i l ++ (outp c).map (tn (mk (ds.getD (i + l.length) false))) := by
  induction l with
  | nil => intro i; simp [tupB]
  | cons v r ih =>
    intro i
    simp only [List.cons_append, tupB, ih, List.length_cons, List.append_assoc]
    rw [show i + 1 + r.length = i + (r.length + 1) by omega]
theorem outp_len (v : T) : (outp v).length ≤ 160 := by
  unfold outp
  split
  · rename_i h; exact (one_ok v h).2
  · simp
theorem tupB_len (ds : List Bool) (l : List T) : ∀ i, (tupB ds i l).length ≤ 160 * l.length := by
  induction l with
  | nil => intro i; simp [tupB]
  | cons v r ih =>
    intro i
    have h1 := outp_len v
    have h2 := ih (i + 1)
    simp only [tupB, List.length_append, List.length_map, List.length_cons]
    omega
/-- the first refusal. -/
def tupE : List T → Nat
  | [] => 0
  | v :: r => if oneE v = 0 then tupE r else oneE v
theorem tupE_at (l : List T) (j : Nat) (c : T) (hc : l[j]? = some c) (h : ∀ x ∈ l.take j, oneE x = 0) (hx : ¬ oneE c = 0) : tupE l = oneE c := by
  induction l generalizing j with
  | nil => simp at hc
  | cons v r ih =>
    cases j with
    | zero => simp at hc; subst hc; simp [tupE, hx]
    | succ j =>
      have h0 : oneE v = 0 := h v (by simp)
      simp only [tupE, h0, if_true]
      exact ih j (by simpa using hc) (fun x hx => h x (by simp [hx]))
theorem tupE_all (l : List T) (h : ∀ x ∈ l, oneE x = 0) : tupE l = 0 := by
  induction l with
  | nil => rfl
  | cons v r ih => simp only [tupE, h v (by simp), if_true]; exact ih (fun x hx => h x (by simp [hx]))
/-- what Encode answers. -/
def encE (ds : List Bool) (l : List T) : Nat := if 4 < l.length then 1 else if tupE l = 0 then (if 160 < (tupB ds 0 l).length then 42 else 0) else tupE l
def encB (ds : List Bool) (l : List T) : List Int := if encE ds l = 0 then tupB ds 0 l else []
def EncOut (ds : List Bool) (l : List T) (w : World) (e : Ending) (w' : World) : Prop :=
  (∃ a c, e = .returned (.tuple #[.slice a (encB ds l).length c, .int .u16 (encE ds l : Int)]) ∧ Own w' (.slice a (encB ds l).length c) (encB ds l)) ∧ Below w.heap.size w w'
theorem EncOut.bad {ds : List Bool} {l : List T} {w w' : World} {x : Nat} (h : encE ds l = x) (hx : ¬ x = 0) (hb : Below w.heap.size w w') : EncOut ds l w (.returned (.tuple #[.slice none 0 0, .int .u16 (x : Int)])) w' := by
  subst h
  refine ⟨⟨none, 0, ?_, ?_⟩, hb⟩
  · simp [encB, hx]
  · simp only [encB, if_neg hx]; exact Own.nil _
theorem EncOut.good {ds : List Bool} {l : List T} {w w' : World} {a : Option Addr} {n c : Nat} (h : encE ds l = 0) (hn : n = (tupB ds 0 l).length) (ho : Own w' (.slice a n c) (tupB ds 0 l)) (hb : Below w.heap.size w w') : EncOut ds l w (.returned (.tuple #[.slice a n c, .int .u16 0])) w' := by
  subst hn
  refine ⟨⟨a, c, ?_, ?_⟩, hb⟩
  · simp [encB, h]
  · simpa [encB, h] using ho
set_option maxHeartbeats 3200000 in
set_option maxRecDepth 1000000 in
theorem encode_gen (n₀ : Nat) (la : Option Addr) (lc : Nat) (l : TL) (da : Option Addr) (dc : Nat) (ds : List Bool) (w : World) (hm : l.Mem n₀ w la 0) (hw : ∀ c ∈ l.list, c.wt ≤ 20000) (hll : l.list.length ≤ 9223372036854775807) (hd : Bl n₀ w da ds) (hdl : ds.length ≤ 9223372036854775807) (hn : n₀ ≤ w.heap.size) :
    Calls Try.prog 7 #[.slice la l.list.length lc, .slice da ds.length dc] w fun e w' => EncOut ds l.list w e w' ∧ True := by
  obtain ⟨i0, hi, hz0, hz1, hz2⟩ := info_parts Try.info5
  have HM := hide hm
  have HD := hide hd
  have HFa := hide (fun W j (h : Below n₀ w W) => falls_any n₀ da dc j ds W (hd.on h) hdl)
  have HOne : Hid (∀ c ∈ l.list, ∀ d W, Below n₀ w W → n₀ ≤ W.heap.size → c.Mem n₀ W → Calls Try.prog 13 #[c.val, .bool d] W fun e w' => (∃ a k, e = .returned (.tuple #[.slice a (outp c).length k, .int .u16 (oneE c : Int)]) ∧ Row w' a ((outp c).map (tn (mk d))) ∧ (a = none → (outp c).length = 0 ∧ k = 0)) ∧ Below W.heap.size W w') :=
    fun c hc d W hW hs hcm => (one_gen d n₀ c W hcm hs (tame_of c (hw c hc)) (enc_small c (hw c hc))).mono (fun e w' h => h.1)
  have HEe : Hid (encE ds l.list = if 4 < l.list.length then 1 else if tupE l.list = 0 then (if 160 < (tupB ds 0 l.list).length then 42 else 0) else tupE l.list) := rfl
  have HBad := hide (fun w' x => EncOut.bad (ds := ds) (l := l.list) (w := w) (w' := w') (x := x))
  have HGood := hide (fun w' a n c => EncOut.good (ds := ds) (l := l.list) (w := w) (w' := w') (a := a) (n := n) (c := c))
  have HTl := hide (fun j => tupB_len ds (l.list.take j) 0)
  clear hm hd hw
  generalize hB : w.heap.size = B at *
  have HBB := hide hB
  have HF0 : Hid (Fr B w w) := by rw [← hB]; exact Fr.refl w
  clear hB
  generalize EncOut ds l.list w = Post at *
  by_cases h4 : 4 < l.list.length
  · have hd4 : decide ((4 : Int) < (l.list.length : Int)) = true := by simp; omega
    have HR : Hid (encE ds l.list = 1) := by rw [Hid, HEe.out, if_pos h4]
    clear h4
    go_enter Try.func7, Try.ntmps7
    go_wp2
    go_ret2
    exact ⟨HBad.out _ 1 HR.out (by omega) HF0.out.below, trivial⟩
  · have hd4 : decide ((4 : Int) < (l.list.length : Int)) = false := by simp; omega
    rw [if_neg h4] at HEe
    go_enter Try.func7, Try.ntmps7
    go_wp2
    go_loopw [6, 16] (fun o i wr => ∃ (j : Nat), i = .int .i64 (j : Int) ∧ j ≤ l.list.length ∧ (∀ x ∈ l.list.take j, oneE x = 0) ∧ OwnB B wr o (tupB ds 0 (l.list.take j)) ∧ Fr B w wr) (fun _ i _ => l.list.length - (intOf i).toNat)
    case atStart => exact ⟨0, rfl, by omega, by simp, ⟨Own.nil _, fun k h => by simp [Value.ownBlock] at h⟩, HF0.out⟩
    case round =>
      obtain ⟨j, rfl, hj, hz, hown, hfr⟩ := hrel
      have HZ := hide hz
      have HF := hide hfr
      have HO := hide hown
      obtain ⟨a1, n1, c1, rfl, HN1⟩ := hown.own.shape2
      clear hfr hown HF0 hz
      by_cases hlt : j < l.list.length
      · obtain ⟨c, hc⟩ : ∃ c, l.list[j]? = some c := ⟨_, List.getElem?_eq_getElem hlt⟩
        have HTk := hide (take_next l.list j c hc)
        have hmem : c ∈ l.list := List.mem_of_getElem? hc
        have HMw := hide (HM.out.on (HF.out.below.mono hn))
        have HMc := hide (TL.Mem.at l 0 HMw.out j c hc).2
        have HOc := hide (HOne.out c hmem (ds.getD j false))
        have HEa := hide (tupE_at l.list j c hc HZ.out)
        have HSn : Hid (tupB ds 0 (l.list.take (j + 1)) = tupB ds 0 (l.list.take j) ++ (outp c).map (tn (mk (ds.getD j false)))) := by
          rw [Hid, HTk.out, tupB_snoc]
          simp [Nat.min_eq_left hj]
        have HZn : Hid (oneE c = 0 → ∀ x ∈ l.list.take (j + 1), oneE x = 0) := by
          intro h0 x hx
          rw [HTk.out] at hx
          rcases List.mem_append.1 hx with h | h
          · exact HZ.out x h
          · rw [List.mem_singleton.1 h]; exact h0
        have HLy := hide (outp_len c)
        have HLt := hide (HTl.out j)
        clear hmem
        generalize outp c = ys at *
        generalize oneE c = x at *
        generalize tupB ds 0 (l.list.take j) = pre at *
        cases c with
        | mk ck cbo cn ct cya cyc cy cla clc cl cfa cfc cf =>
        obtain ⟨b', o', rfl, hb', q0, q1, q2, q3, q4, q5, q6⟩ := HMw.out.cells hc
        clear hc
        simp only [T.val] at HOc
        have HB0 := hide (Box7.new wr (.int .u8 ck) (.bool cbo) (.int .i64 cn) (.string ct) (.slice cya cy.length cyc) (.slice cla cl.list.length clc) (.slice cfa cf.list.length cfc))
        have HX0 := hide (below_alloc wr (.cells #[.int .u8 ck, .bool cbo, .int .i64 cn, .string ct, .slice cya cy.length cyc, .slice cla cl.list.length clc, .slice cfa cf.list.length cfc] 41))
        go_wp2
        have HFX := hide (HF.out.on HX0.out)
        have HOX := hide (HO.out.on HX0.out)
        have HMX := hide ((HMc.out.on (HX0.out.mono (by have := HF.out.size; omega))).on ((Below.refl n₀ _).drew))
        generalize wr.alloc (.cells #[.int .u8 ck, .bool cbo, .int .i64 cn, .string ct, .slice cya cy.length cyc, .slice cla cl.list.length clc, .slice cfa cf.list.length cfc] 41) = X at *
        generalize wr.heap.size = b at *
        have HBd := hide (HB0.out.below (Below.refl _ _).drew)
        obtain ⟨p0, p1, p2, p3, p4, p5, p6⟩ := HB0.out.cells
        have hBX : Below n₀ w X.drew := HFX.out.drew.below.mono hn
        have hsX : n₀ ≤ X.drew.heap.size := by have := HFX.out.drew.size; omega
        have HC19 := hide (HFa.out X.drew j hBX)
        have HC13 := hide (HOc.out X.drew hBX hsX HMX.out)
        generalize ds.getD j false = dd at *
        clear q0 q1 q2 q3 q4 q5 q6 HX0 HF HO hBX hsX HOc HMX
        go_region_held3 (fun W => W.cell? ⟨b, 0, none⟩ = some (.int .u8 ck) ∧ W.cell? ⟨b, 1, none⟩ = some (.bool cbo) ∧ W.cell? ⟨b, 2, none⟩ = some (.int .i64 cn) ∧ W.cell? ⟨b, 3, none⟩ = some (.string ct) ∧ W.cell? ⟨b, 4, none⟩ = some (.slice cya cy.length cyc) ∧ W.cell? ⟨b, 5, none⟩ = some (.slice cla cl.list.length clc) ∧ W.cell? ⟨b, 6, none⟩ = some (.slice cfa cf.list.length cfc)) ((refine ⟨?_, ?_, ?_, ?_, ?_, ?_, ?_⟩ <;> assumption)) ((first | (go_at_call 19; refine HC19.out.mono ?_; intro r' V1 hh; obtain ⟨rfl, rfl⟩ := hh) | (go_at_call 13; refine HC13.out.mono ?_; intro r' V2 hh; obtain ⟨⟨a2, c2, rfl, hrow2, hnn2⟩, hb2⟩ := hh; have HB2 := hide (HBd.out.below hb2); obtain ⟨s0, s1, s2, s3, s4, s5, s6⟩ := HB2.out.cells; have HF2 := hide (HFX.out.drew.on hb2); have HO2 := hide ((HOX.out.on (Below.refl _ _).drew).on hb2); have HR2 := hide hrow2; have HN2 := hide hnn2; clear hb2 hrow2 hnn2)))
        clear p0 p1 p2 p3 p4 p5 p6 s0 s1 s2 s3 s4 s5 s6
        by_cases hx : x = 0
        · subst hx
          have HSr := hide (src_row V2 a2 ys.length c2 (ys.map (tn (mk dd))) (by rw [List.length_map]) HN2.out HR2.out)
          have hlen : pre.length + ys.length ≤ 140737488355328 := by have h1 := HLy.out; have h2 := HLt.out; have h3 : (l.list.take j).length ≤ j := List.length_take_le _ _; omega
          generalize hL : ys.length = L2 at *
          clear hL
          go_wp2_with (at_builtin; refine wpList_append_src (by rfl) (.tmp 32) (.tmp 33) 25 25 (by rfl) i0 Try.underlying25 hi hz0 hz1 hz2 (.slice a1 n1 c1) pre (by rfl) HO2.out.own (.slice a2 L2 c2) L2 (ys.map (tn (mk dd))) (by rfl) HSr.out (by omega) ?_; intro v' w1 hown1 hg1 hf1; obtain ⟨a3, n3, c3, rfl, HN3⟩ := hown1.shape2; have HF3 := hide (HF2.out.grown hg1 HO2.out.new); have HO3 : Hid (OwnB B w1 (.slice a3 n3 c3) (pre ++ ys.map (tn (mk dd)))) := ⟨hown1, fun k hk => (hf1 k hk).elim (HO2.out.new k) (fun hs => Nat.le_trans HF2.out.size hs)⟩; clear hown1 hg1 hf1)
          go_roundw
          case rel => exact ⟨j + 1, by go_num, by omega, HZn.out rfl, by rw [HSn.out]; exact HO3.out, HF3.out⟩
          case measure => simp [intOf]; omega
        · have hxd : ((x : Int) == 0) = false := by simp; omega
          have HR : Hid (encE ds l.list = x) := by rw [Hid, HEe.out, HEa.out hx, if_neg hx]
          have HX9 := hide hx
          clear hx
          go_wp2
          go_ret2
          exact ⟨HBad.out _ x HR.out HX9.out HF2.out.below, trivial⟩
      · have hjl : l.list.take j = l.list := List.take_of_length_le (by omega)
        rw [hjl] at HO HZ HN1
        have HTe : Hid (tupE l.list = 0) := tupE_all _ HZ.out
        clear hjl
        by_cases hlen : 160 < n1
        · have hld : decide ((160 : Int) < (n1 : Int)) = true := by simp; omega
          have HR : Hid (encE ds l.list = 42) := by rw [Hid, HEe.out, if_pos HTe.out, if_pos (by have := HN1.out; omega)]
          clear hlen
          go_wp2
          go_ret2
          exact ⟨HBad.out _ 42 HR.out (by omega) HF.out.below, trivial⟩
        · have hld : decide ((160 : Int) < (n1 : Int)) = false := by simp; omega
          have HR : Hid (encE ds l.list = 0) := by rw [Hid, HEe.out, if_pos HTe.out, if_neg (by have := HN1.out; omega)]
          clear hlen
          go_wp2
          go_ret2
          exact ⟨HGood.out _ a1 n1 c1 HR.out HN1.out HO.out.own HF.out.below, trivial⟩
end Go.Proofs.Ytegoeaofjnpehaa
