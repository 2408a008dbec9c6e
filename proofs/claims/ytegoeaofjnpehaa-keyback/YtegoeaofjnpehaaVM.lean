/- One of any value, rising or falling. -/
import Derived.Test.YtegoeaofjnpehaaVL
namespace Go.Proofs.Ytegoeaofjnpehaa
open Go.RowKit
set_option linter.unusedVariables false

/-- what One answers: the error, or 0. -/
def oneE (v : T) : Nat := if ckE v = 0 then (if v.hd then 41 else if 160 < v.enc.length then 42 else 0) else 40
def mk (d : Bool) : Int := if d then 255 else 0
theorem turning_any (d : Bool) (W : World) : Calls Try.prog 25 #[.bool d] W fun e w' => e = .returned (.func (.func 36) #[] #[.pointer (some ⟨W.heap.size, 0, none⟩)]) ∧ w' = W.alloc (.cells #[.int .u8 (mk d)] 5) := by
  cases d
  · exact turning_up W
  · exact turning_down W
/-- what comes out of One. -/
def OneOut (v : T) (m : Int) (w : World) (e : Ending) (w' : World) : Prop :=
  (∃ a c, e = .returned (.tuple #[.slice a (if oneE v = 0 then v.enc else []).length c, .int .u16 (oneE v : Int)]) ∧ Row w' a ((if oneE v = 0 then v.enc else []).map (tn m)) ∧ (a = none → (if oneE v = 0 then v.enc else []).length = 0 ∧ c = 0)) ∧ Below w.heap.size w w'
theorem OneOut.bad {v : T} {m : Int} {w w' : World} {x : Nat} (h : oneE v = x) (hx : ¬ x = 0) (hb : Below w.heap.size w w') : OneOut v m w (.returned (.tuple #[.slice none 0 0, .int .u16 (x : Int)])) w' := by
  subst h
  refine ⟨⟨none, 0, ?_, ?_, ?_⟩, hb⟩ <;> simp [hx, Row]
theorem OneOut.good {v : T} {m : Int} {w w' : World} {a : Option Addr} {c : Nat} (h : oneE v = 0) (hr : Row w' a (v.enc.map (tn m))) (hn : a = none → v.enc.length = 0 ∧ c = 0) (hb : Below w.heap.size w w') : OneOut v m w (.returned (.tuple #[.slice a v.enc.length c, .int .u16 0])) w' := by
  refine ⟨⟨a, c, ?_, ?_, ?_⟩, hb⟩
  · rw [h]; simp
  · simpa [h] using hr
  · simpa [h] using hn
theorem ckE_le (v : T) : ckE v ≤ 60000 := by
  unfold ckE chk
  split
  · omega
  split
  · omega
  generalize v.flat 1 = l
  induction l with
  | nil => simp [firstE]
  | cons x r ih =>
    simp only [firstE]
    split
    · exact ih
    · exact fitE_le _
set_option maxHeartbeats 3200000 in
set_option maxRecDepth 1000000 in
theorem one_gen (d : Bool) (n₀ : Nat) (v : T) (w : World) (hm : v.Mem n₀ w) (hn : n₀ ≤ w.heap.size) (hT : v.Tame) (hE : v.enc.length ≤ 9999999) :
    Calls Try.prog 13 #[v.val, .bool d] w fun e w' => OneOut v (mk d) w e w' ∧ True := by
  have hmd : 0 ≤ mk d ∧ mk d ≤ 255 := by unfold mk; split <;> omega
  have HT := hide (turning_any d)
  have HCk := hide (fun W (hW : Below n₀ w W) (hs : n₀ ≤ W.heap.size) => check_all n₀ v W (hm.on hW) hs hT)
  have HDc := hide (fun W (hW : Below n₀ w W) (hs : n₀ ≤ W.heap.size) => hasdoc_gen n₀ v.sz v (Nat.le_refl _) W (hm.on hW) hs)
  have HWr := hide (fun W po pt q (hW : Below n₀ w W) (hs : n₀ ≤ W.heap.size) (hp : PutS W po pt q (mk d) []) (hN : New n₀ W po) => write_gen n₀ po pt q (mk d) v.sz v (Nat.le_refl _) W [] hp (hm.on hW) hN hs (by simp; omega))
  have HCl := hide (ckE_le v)
  have HOe : Hid (oneE v = if ckE v = 0 then (if v.hd then 41 else if 160 < v.enc.length then 42 else 0) else 40) := rfl
  have HBad := hide (fun w' x => OneOut.bad (v := v) (m := mk d) (w := w) (w' := w') (x := x))
  have HGood := hide (fun w' a c => OneOut.good (v := v) (m := mk d) (w := w) (w' := w') (a := a) (c := c))
  generalize OneOut v (mk d) w = Post at *
  generalize hO : oneE v = oe at *
  generalize v.hd = hd at *
  generalize ckE v = ck at *
  have HEl := hide hE
  clear hE hT hm hO
  generalize v.enc = ys at *
  cases v with
  | mk k bo n t ya yc y la lc l fa fc f =>
  simp only [T.val] at *
  have HB0 := hide (Box7.new w (.int .u8 k) (.bool bo) (.int .i64 n) (.string t) (.slice ya y.length yc) (.slice la l.list.length lc) (.slice fa f.list.length fc))
  have HF0 := hide ((Fr.refl w).alloc (.cells #[.int .u8 k, .bool bo, .int .i64 n, .string t, .slice ya y.length yc, .slice la l.list.length lc, .slice fa f.list.length fc] 41))
  generalize mk d = m at *
  go_enter Try.func13, Try.ntmps13
  go_wp2_with fail
  refine (HCk.out _ (HF0.out.below.mono hn) (by have := HF0.out.size; omega)).mono ?_
  rintro e W1 ⟨rfl, hb⟩
  have HB1 := hide (HB0.out.below hb)
  have HF1 := hide (HF0.out.on hb)
  clear hb HB0 HF0
  generalize hbw : w.heap.size = b at *
  have HBW := hide hbw
  clear hbw
  obtain ⟨k0, k1, k2, k3, k4, k5, k6⟩ := HB1.out.cells
  by_cases hck : ck = 0
  · subst hck
    go_wp2_with fail
    refine (HDc.out _ (HF1.out.below.mono hn) (by have := HF1.out.size; omega)).mono ?_
    rintro e W2 ⟨rfl, hb⟩
    have HB2 := hide (HB1.out.below hb)
    have HF2 := hide (HF1.out.on hb)
    clear hb HB1 HF1 k0 k1 k2 k3 k4 k5 k6
    cases hd
    · go_wp2_with fail
      refine (HT.out _).mono ?_
      rintro e W3 ⟨rfl, rfl⟩
      have HS := hide (PutS.start W2 m hmd)
      have HF3 := hide (((HF2.out.alloc (.cells #[.slice none 0 0] 25)).alloc (.cells #[.int .u8 m] 5)).alloc (.cells #[.func (.func 36) #[] #[.pointer (some ⟨W2.heap.size + 1, 0, none⟩)]] 57))
      have HB3 := hide (((HB2.out.below (below_alloc _ (.cells #[.slice none 0 0] 25))).below (below_alloc _ (.cells #[.int .u8 m] 5))).below (below_alloc _ (.cells #[.func (.func 36) #[] #[.pointer (some ⟨W2.heap.size + 1, 0, none⟩)]] 57)))
      obtain ⟨k0, k1, k2, k3, k4, k5, k6⟩ := HB3.out.cells
      go_wp2_with fail
      refine (HWr.out _ _ _ _ (HF3.out.below.mono hn) (by have := HF3.out.size; omega) HS.out (fun k hk => by have := start_foot W2 m k hk; have := HF2.out.size; omega)).mono ?_
      rintro e W4 ⟨rfl, hp, ho⟩
      have HF4 : Hid (Fr b w W4) := ⟨HF3.out.below.trans (ho.below (fun k hk => by have := start_foot W2 m k hk; have := HF2.out.size; omega) HF3.out.size), Nat.le_trans HF3.out.size ho.size⟩
      rw [List.nil_append] at hp
      obtain ⟨va, hcell, hown, hap⟩ := hp.wr
      obtain ⟨a1, c1, rfl, hle, hmx, hnn, hrow, _⟩ := hown.shape
      have g0 := cell_of_one hcell
      have HRw := hide hrow
      have HNn := hide hnn
      rw [List.length_map] at g0 HNn
      clear hcell hown hap hp ho hrow hnn k0 k1 k2 k3 k4 k5 k6
      by_cases hlen : 160 < ys.length
      · have hld : decide ((160 : Int) < (ys.length : Int)) = true := by simp; omega
        have HR : Hid (oe = 42) := by rw [Hid, HOe.out]; simp [hlen]
        clear hlen
        go_wp2
        go_ret2
        exact ⟨HBad.out _ 42 HR.out (by omega) HF4.out.below, trivial⟩
      · have hld : decide ((160 : Int) < (ys.length : Int)) = false := by simp; omega
        have HR : Hid (oe = 0) := by rw [Hid, HOe.out]; simp [hlen]
        clear hlen
        go_wp2
        go_ret2
        exact ⟨HGood.out _ a1 c1 HR.out HRw.out HNn.out HF4.out.below, trivial⟩
    · have HR : Hid (oe = 41) := by rw [Hid, HOe.out]; simp
      go_wp2
      go_ret2
      exact ⟨HBad.out _ 41 HR.out (by omega) HF2.out.below, trivial⟩
  · have hcb : ((ck : Int) == 0) = false := by simp; omega
    have HR : Hid (oe = 40) := by rw [Hid, HOe.out]; simp [hck]
    clear hck
    go_wp2
    go_ret2
    exact ⟨HBad.out _ 40 HR.out (by omega) HF1.out.below, trivial⟩
end Go.Proofs.Ytegoeaofjnpehaa
