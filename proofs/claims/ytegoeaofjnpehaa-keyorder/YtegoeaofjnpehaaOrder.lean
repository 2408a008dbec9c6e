/- The Go function KeyOrder answers true for all tuples and all that falls, and leaves them as they were: the bytes of two tuples compare as the tuples do. No condition. -/
import Derived.Test.YtegoeaofjnpehaaVW
import Derived.Test.YtegoeaofjnpehaaVZ
import Derived.Deep.RegionHeld3
namespace Go.Proofs.Ytegoeaofjnpehaa.Order
open Go.ChangeShapes Go.WideShapes Go.ChangeAt Go.RowKit
set_option linter.unusedVariables false

theorem own_n {w : World} {a : Option Addr} {n c : Nat} {zs : List Int} (h : Own w (.slice a n c) zs) : zs.length = n ∧ (a = none → n = 0 ∧ c = 0) := by
  obtain ⟨a', c', e, _, _, hn, _⟩ := h.shape
  cases e
  exact ⟨rfl, hn⟩
theorem tup_byts {n₀ : Nat} {W : World} (ds : List Bool) : ∀ (l : List T) (i : Nat), (∀ x ∈ l, x.Mem n₀ W) → Byts (tupB ds i l) := by
  intro l
  induction l with
  | nil => intro i _ c hc; simp [tupB] at hc
  | cons v r ih =>
    intro i h c hc
    simp only [tupB, List.mem_append, List.mem_map] at hc
    rcases hc with ⟨x, hx, rfl⟩ | hc
    · have h1 : 0 ≤ x ∧ x ≤ 255 := by
        unfold outp at hx
        split at hx
        · exact T.enc_byts v (h v (by simp)) x hx
        · simp at hx
      exact tn_bd _ x h1 (by unfold mk; cases ds.getD i false <;> simp)
    · exact ih (i + 1) (fun x hx => h x (by simp [hx])) c hc
theorem encB_byts {n₀ : Nat} {W : World} (ds : List Bool) (l : List T) (h : ∀ x ∈ l, x.Mem n₀ W) : Byts (encB ds l) := by
  unfold encB
  split
  · exact tup_byts ds l 0 h
  · intro c hc; simp at hc
theorem tupE_ok : ∀ (l : List T), tupE l = 0 → ∀ x ∈ l, oneE x = 0
  | [], _, x, h => by simp at h
  | v :: r, h, x, hx => by
    simp only [tupE] at h
    by_cases h0 : oneE v = 0
    · rw [if_pos h0] at h
      rcases List.mem_cons.1 hx with rfl | hx
      · exact h0
      · exact tupE_ok r h x hx
    · rw [if_neg h0] at h
      exact absurd h h0
theorem encE_ok (ds : List Bool) (l : List T) (h : encE ds l = 0) : (∀ x ∈ l, oneE x = 0) ∧ encB ds l = tupB ds 0 l ∧ l.length ≤ 4 := by
  have hb : encB ds l = tupB ds 0 l := by simp [encB, h]
  unfold encE at h
  split at h
  · omega
  · split at h
    · rename_i h4 h0; exact ⟨tupE_ok l h0, hb, by omega⟩
    · contradiction
theorem encB_bad (ds : List Bool) (l : List T) (h : encE ds l ≠ 0) : (encB ds l).length = 0 := by simp [encB, h]
theorem encE_bd (ds : List Bool) (l : List T) : encE ds l ≤ 65535 := by
  have h1 : ∀ v, oneE v ≤ 65535 := by
    intro v
    unfold oneE
    repeat' split
    all_goals omega
  have h2 : ∀ l, tupE l ≤ 65535 := by
    intro l
    induction l with
    | nil => simp [tupE]
    | cons v r ih => simp only [tupE]; split; exact ih; exact h1 v
  unfold encE
  have := h2 l
  repeat' split
  all_goals omega
theorem mem_all {n₀ : Nat} {W : World} {a : Option Addr} (l : TL) (h : l.Mem n₀ W a 0) : ∀ x ∈ l.list, x.Mem n₀ W := by
  intro x hx
  obtain ⟨j, hj, rfl⟩ := List.mem_iff_getElem.1 hx
  exact (TL.Mem.at l 0 h j _ (List.getElem?_eq_getElem hj)).2
set_option maxHeartbeats 3200000 in
set_option maxRecDepth 1000000 in
theorem walk (la ma da : Option Addr) (lc mc dc : Nat) (l m : TL) (ds : List Bool) (w : World) (hl : l.Mem w.heap.size w la 0) (hm : m.Mem w.heap.size w ma 0) (hd : Bl w.heap.size w da ds) (hll : l.list.length ≤ 9223372036854775807) (hml : m.list.length ≤ 9223372036854775807) (hdl : ds.length ≤ 9223372036854775807) (sl : l.Szd) (sm : m.Szd) :
    Calls Try.prog 3 #[.slice la l.list.length lc, .slice ma m.list.length mc, .slice da ds.length dc] w fun e w' => e = .returned (.bool true) ∧ Below w.heap.size w w' := by
  have HF0 := hide (Fr.refl w)
  have HMl := hide (fun W (h : Below w.heap.size w W) (hs : w.heap.size ≤ W.heap.size) => much_gen w.heap.size la lc l W (hl.on h) sl hll hs)
  have HMm := hide (fun W (h : Below w.heap.size w W) (hs : w.heap.size ≤ W.heap.size) => much_gen w.heap.size ma mc m W (hm.on h) sm hml hs)
  have HEl := hide (fun W (h : Below w.heap.size w W) (hs : w.heap.size ≤ W.heap.size) (hw : l.list.length + l.wt ≤ 20000) => encode_gen w.heap.size la lc l da dc ds W (hl.on h) (fun c hc => by have := TL.wt_mem l c hc; omega) hll (hd.on h) hdl hs)
  have HEm := hide (fun W (h : Below w.heap.size w W) (hs : w.heap.size ≤ W.heap.size) (hw : m.list.length + m.wt ≤ 20000) => encode_gen w.heap.size ma mc m da dc ds W (hm.on h) (fun c hc => by have := TL.wt_mem m c hc; omega) hml (hd.on h) hdl hs)
  have HYl := hide (encB_byts ds l.list (mem_all l hl))
  have HYm := hide (encB_byts ds m.list (mem_all m hm))
  have HGo : Hid (encE ds l.list = 0 → encE ds m.list = 0 → ∀ W, Below w.heap.size w W → w.heap.size ≤ W.heap.size → Calls Try.prog 10 #[.slice la l.list.length lc, .slice ma m.list.length mc, .slice da ds.length dc] W fun e w' => e = .returned (.int .i64 (ordI (encB ds l.list) (encB ds m.list))) ∧ Below W.heap.size W w') := by
    intro h1 h2 W h hs
    obtain ⟨o1, b1, _⟩ := encE_ok ds l.list h1
    obtain ⟨o2, b2, _⟩ := encE_ok ds m.list h2
    refine tcmp_gen w.heap.size la ma da lc mc dc l m ds W (hl.on h) (hm.on h) hll hml (hd.on h) hdl hs (fun c hc => ⟨(one_ok c (o1 c hc)).1, TL.Szd.at l sl c hc⟩) (fun c hc => ⟨(one_ok c (o2 c hc)).1, TL.Szd.at m sm c hc⟩) _ ?_
    rw [b1, b2]
    exact (tup_order (n₀ := w.heap.size) (W := w) ds l.list m.list 0 (fun x hx => ⟨o1 x hx, mem_all l hl x hx, TL.Szd.at l sl x hx⟩) (fun x hx => ⟨o2 x hx, mem_all m hm x hx, TL.Szd.at m sm x hx⟩)).symm
  have HBl := hide (encB_bad ds l.list)
  have HBm := hide (encB_bad ds m.list)
  have hel := encE_bd ds l.list
  have hem := encE_bd ds m.list
  simp only [EncOut] at HEl HEm
  generalize encB ds l.list = xs at *
  generalize encB ds m.list = ys at *
  generalize encE ds l.list = el at *
  generalize encE ds m.list = em at *
  clear hl hm hd sl sm
  generalize hbw : w.heap.size = b at *
  have HBW := hide hbw
  clear hbw
  go_enter Try.func3, Try.ntmps3
  go_wp2_with fail
  refine (HMl.out _ HF0.out.below HF0.out.size).mono ?_
  rintro e W1 ⟨⟨β, rfl, hβ⟩, hb⟩
  have HF1 := hide (HF0.out.on hb)
  clear hb
  cases β
  · have hlw := hβ rfl
    clear hβ
    go_wp2_with fail
    refine (HMm.out _ HF1.out.below HF1.out.size).mono ?_
    rintro e W2 ⟨⟨β, rfl, hβ⟩, hb⟩
    have HF2 := hide (HF1.out.on hb)
    clear hb
    cases β
    · have hmw := hβ rfl
      clear hβ
      by_cases hdb : 20000 < ds.length
      · have hdd : decide ((20000 : Int) < (ds.length : Int)) = true := by simp; omega
        go_wp2
        go_ret
        exact ⟨rfl, HF2.out.below⟩
      · have hdd : decide ((20000 : Int) < (ds.length : Int)) = false := by simp; omega
        go_wp2_with fail
        refine (HEl.out _ HF2.out.below HF2.out.size hlw).mono ?_
        rintro e W3 ⟨⟨⟨a1, c1, rfl, ho⟩, hb⟩, -⟩
        have HF3 := hide (HF2.out.on hb)
        have HO1 := hide ho
        clear hb ho
        go_wp2_with fail
        refine (HEm.out _ HF3.out.below HF3.out.size hmw).mono ?_
        rintro e W4 ⟨⟨⟨a2, c2, rfl, ho⟩, hb⟩, -⟩
        have HF4 := hide (HF3.out.on hb)
        have HO2 := hide ho
        have HR1 := hide (HO1.out.row.below hb)
        have HN1 := hide (own_n HO1.out).2
        have HN2 := hide (own_n HO2.out).2
        have HR2 := hide HO2.out.row
        clear hb ho HO1 HO2
        go_wp2_with fail
        refine (known_any _).mono ?_
        rintro e W5 ⟨rfl, hb⟩
        have HF5 := hide (HF4.out.on hb)
        have HS1 := hide (HR1.out.below hb)
        have HS2 := hide (HR2.out.below hb)
        clear hb HR1 HR2
        by_cases h1 : el = 0
        · subst h1
          by_cases h2 : em = 0
          · subst h2
            have HOr := hide (order_any a1 a2 xs.length c1 ys.length c2 xs ys W5 rfl rfl HN1.out HN2.out HS1.out HS2.out HYl.out HYm.out)
            have HCm := hide (HGo.out rfl rfl)
            clear HGo
            generalize ordI xs ys = o at *
            go_wp2_with fail
            refine HOr.out.mono ?_
            rintro e V ⟨rfl, rfl⟩
            go_wp2_with fail
            refine (HCm.out _ HF5.out.below HF5.out.size).mono ?_
            rintro e W6 ⟨rfl, hb⟩
            have HF6 := hide (HF5.out.on hb)
            clear hb
            go_wp2
            go_ret
            exact ⟨by simp, HF6.out.below⟩
          · have hd2 : ((em : Int) == 0) = false := by simp; omega
            have hy0 : ys.length = 0 := HBm.out h2
            clear h2
            rw [hy0]
            go_wp2
            go_ret
            exact ⟨rfl, HF5.out.below⟩
        · have hd1 : ((el : Int) == 0) = false := by simp; omega
          have hd1' : ((el : Int) != 0) = true := by simp; omega
          have hx0 : xs.length = 0 := HBl.out h1
          clear h1
          rw [hx0]
          by_cases h2 : em = 0
          · subst h2
            go_wp2
            go_ret
            exact ⟨rfl, HF5.out.below⟩
          · have hd2 : ((em : Int) == 0) = false := by simp; omega
            have hy0 : ys.length = 0 := HBm.out h2
            clear h2
            rw [hy0]
            go_wp2
            go_ret
            exact ⟨rfl, HF5.out.below⟩
    · clear hβ
      go_wp2
      go_ret
      exact ⟨rfl, HF2.out.below⟩
  · clear hβ
    go_wp2
    go_ret
    exact ⟨rfl, HF1.out.below⟩

set_option maxHeartbeats 1600000 in
set_option maxRecDepth 100000 in
theorem lifted (os : Os) (started : os.Started) (H : Type) (enc : TypeId × Value → H) :
    ReturnsInHanded {} Try.checked os 3 .any (Rows.keyOrderSpec.pre6 enc Try.prog Try.f3 Rows.keyOrderRow.domain false) (Rows.keyOrderSpec.post enc Try.prog Try.f3 false true false false) := by
  refine returnsInHanded_of_change (C := Try.checked) own started (by kernel_rfl) Try.func3
    (ChangeSpec.witness6 (enc := enc) (C := Try.checked) false ⟨#[], #[.slice none 0 0, .slice none 0 0, .slice none 0 0], []⟩ 8 (by kernel_rfl) (by kernel_rfl) (by kernel_rfl) (by kernel_rfl)) ?_
  intro W base args ds gs before hval0 hW hcnd _
  have hval : ∀ (j : Nat) t v, Try.f3.params[j]? = some t → args[j]? = some v → Value.okWide Try.prog W .any base t v := hval0
  have hW' := hW
  obtain ⟨p, q, hA0, hV, rfl, hfz, hnd⟩ := hW
  have hA : DataW.TrodAll enc Try.prog W 0 (fun _ => true) true Try.f3.params.toList args.toList ds p := hA0
  rw [Try.params3] at hA hval
  obtain ⟨v0, vs0, d0, ds0, p0, q0, hargs, rfl, rfl, h0, r0⟩ := trodAll_cons hA
  obtain ⟨v1, vs1, d1, ds1, p1, q1, rfl, rfl, rfl, h1, r1⟩ := trodAll_cons r0
  obtain ⟨v2, vs2, d2, ds2, p2, q2, rfl, rfl, rfl, h2, r2⟩ := trodAll_cons r1
  obtain ⟨rfl, rfl, rfl⟩ := trodAll_nil r2
  obtain rfl : args = #[v0, v1, v2] := by cases args; simp_all
  obtain ⟨rfl, rfl⟩ := trodVars_none hV
  obtain ⟨a0, len0, cap0, rfl⟩ := okWide_slice Try.underlying22 (hval 0 22 v0 rfl rfl)
  have k0 := h0
  have lt0 : ∀ x ∈ p0, x.block < W.heap.size := by obtain ⟨m, hm⟩ := k0; exact DataW.trod_lt m _ _ _ hm
  obtain ⟨la, lc, l, e0, m0, _, n0, s0, _⟩ : ∃ la lc, ∃ l : TL, Value.slice a0 len0 cap0 = .slice la l.list.length lc ∧ l.Mem W.heap.size W la 0 ∧ (la = none → l.list = [] ∧ lc = 0) ∧ l.list.length ≤ 9223372036854775807 ∧ l.Szd ∧ l.list.length ≤ lc := by
    obtain ⟨fuel, hf⟩ := h0
    exact read_vals fuel _ _ hf
  cases e0
  obtain ⟨a1, len1, cap1, rfl⟩ := okWide_slice Try.underlying22 (hval 1 22 v1 rfl rfl)
  have k1 := h1
  have lt1 : ∀ x ∈ p1, x.block < W.heap.size := by obtain ⟨m, hm⟩ := k1; exact DataW.trod_lt m _ _ _ hm
  obtain ⟨ma, mc, m, e1, m1, _, n1, s1, _⟩ : ∃ la lc, ∃ l : TL, Value.slice a1 len1 cap1 = .slice la l.list.length lc ∧ l.Mem W.heap.size W la 0 ∧ (la = none → l.list = [] ∧ lc = 0) ∧ l.list.length ≤ 9223372036854775807 ∧ l.Szd ∧ l.list.length ≤ lc := by
    obtain ⟨fuel, hf⟩ := h1
    exact read_vals fuel _ _ hf
  cases e1
  obtain ⟨a2, len2, cap2, rfl⟩ := okWide_slice Try.underlying23 (hval 2 23 v2 rfl rfl)
  have k2 := h2
  have lt2 : ∀ x ∈ p2, x.block < W.heap.size := by obtain ⟨m, hm⟩ := k2; exact DataW.trod_lt m _ _ _ hm
  obtain ⟨da, dc, dd, e2, m2, n2⟩ : ∃ da dc, ∃ ds : List Bool, Value.slice a2 len2 cap2 = .slice da ds.length dc ∧ Bl W.heap.size W da ds ∧ ds.length ≤ 9223372036854775807 := by
    obtain ⟨fuel, hf⟩ := h2
    exact read_bools fuel _ _ hf
  cases e2
  clear hA0 hval0
  refine (walk a0 a1 a2 cap0 cap1 cap2 l m dd W m0 m1 m2 n0 n1 n2 s0 s1).mono fun e W' ⟨he, bel⟩ => ?_
  subst he
  exact ⟨_, rfl, _, _, _, [], _, [], hW', trodAll_mk1 (shut_bool Try.underlying4 _), (trodAll_cons_mk (Below.trod laidOut (by kernel_rfl) (of_decide_eq_true (by kernel_rfl)) k0 bel lt0) (trodAll_cons_mk (Below.trod laidOut (by kernel_rfl) (of_decide_eq_true (by kernel_rfl)) k1 bel lt1) (trodAll_cons_mk (Below.trod laidOut (by kernel_rfl) (of_decide_eq_true (by kernel_rfl)) k2 bel lt2) trodAll_mk0))), rfl, bel.frame _, fun h => by cases h⟩

theorem over : Rows.keyOrderRow.holds Try.pinned (OpenSpec.ofChange Rows.keyOrderSpec) :=
  OpenClaim.holds_of_wide 3 Try.f3 rfl rfl rfl rfl rfl rfl rfl ⟨rfl, rfl, rfl, rfl, rfl⟩ rfl rfl rfl rfl rfl (by kernel_rfl) Try.func3 (by kernel_rfl)
    (of_decide_eq_true (by kernel_rfl)) (by unfold Func.isWrapper; first | (rw [if_pos (by decide +kernel)]; kernel_rfl) | (rw [if_neg (by decide +kernel)]; exact ⟨rfl, rfl⟩))
    (fun os started H enc _ => lifted os started H enc)

end Go.Proofs.Ytegoeaofjnpehaa.Order
namespace Go.Proofs.Ytegoeaofjnpehaa
theorem keyOrder_holds : Rows.KeyOrderSaid := Order.over
#print axioms keyOrder_holds
end Go.Proofs.Ytegoeaofjnpehaa
