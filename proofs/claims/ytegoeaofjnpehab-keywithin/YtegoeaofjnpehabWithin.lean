/- The Go function KeyWithin answers true for all tuples and all that falls, and leaves them as they were: the bytes of all tuples that begin with some values, and of no others, lie between the bytes of these and After of them. No condition. -/
import Derived.Test.YtegoeaofjnpehabWC
import Derived.Deep.RegionHeld3
namespace Go.Proofs.Ytegoeaofjnpehab.Within
open Go.ChangeShapes Go.WideShapes Go.ChangeAt Go.RowKit
set_option linter.unusedVariables false

theorem own_n {w : World} {a : Option Addr} {n c : Nat} {zs : List Int} (h : Own w (.slice a n c) zs) : zs.length = n ∧ (a = none → n = 0 ∧ c = 0) := by
  obtain ⟨a', c', e, _, _, hn, _⟩ := h.shape
  cases e
  exact ⟨rfl, hn⟩
theorem tup_byts {n₀ : Nat} {W : World} (ds : List Bool) : ∀ (l : List T) (i : Nat), (∀ x ∈ l, x.Mem n₀ W) → Byts (tupB ds i l) := by
  intro l
  induction l with
  | nil => intro i _ c hc; simp [tupB] at hc
  | cons v r ih =>
    intro i h c hc
    simp only [tupB, List.mem_append, List.mem_map] at hc
    rcases hc with ⟨x, hx, rfl⟩ | hc
    · have h1 : 0 ≤ x ∧ x ≤ 255 := by
        unfold outp at hx
        split at hx
        · exact T.enc_byts v (h v (by simp)) x hx
        · simp at hx
      exact tn_bd _ x h1 (by unfold mk; cases ds.getD i false <;> simp)
    · exact ih (i + 1) (fun x hx => h x (by simp [hx])) c hc
theorem encB_byts {n₀ : Nat} {W : World} (ds : List Bool) (l : List T) (h : ∀ x ∈ l, x.Mem n₀ W) : Byts (encB ds l) := by
  unfold encB
  split
  · exact tup_byts ds l 0 h
  · intro c hc; simp at hc
theorem tupE_ok : ∀ (l : List T), tupE l = 0 → ∀ x ∈ l, oneE x = 0
  | [], _, x, h => by simp at h
  | v :: r, h, x, hx => by
    simp only [tupE] at h
    by_cases h0 : oneE v = 0
    · rw [if_pos h0] at h
      rcases List.mem_cons.1 hx with rfl | hx
      · exact h0
      · exact tupE_ok r h x hx
    · rw [if_neg h0] at h
      exact absurd h h0
theorem encE_ok (ds : List Bool) (l : List T) (h : encE ds l = 0) : (∀ x ∈ l, oneE x = 0) ∧ encB ds l = tupB ds 0 l ∧ l.length ≤ 4 := by
  have hb : encB ds l = tupB ds 0 l := by simp [encB, h]
  unfold encE at h
  split at h
  · omega
  · split at h
    · rename_i h4 h0; exact ⟨tupE_ok l h0, hb, by omega⟩
    · contradiction
theorem encB_bad (ds : List Bool) (l : List T) (h : encE ds l ≠ 0) : (encB ds l).length = 0 := by simp [encB, h]
theorem encE_bd (ds : List Bool) (l : List T) : encE ds l ≤ 65535 := by
  have h1 : ∀ v, oneE v ≤ 65535 := by
    intro v
    unfold oneE
    repeat' split
    all_goals omega
  have h2 : ∀ l, tupE l ≤ 65535 := by
    intro l
    induction l with
    | nil => simp [tupE]
    | cons v r ih => simp only [tupE]; split; exact ih; exact h1 v
  unfold encE
  have := h2 l
  repeat' split
  all_goals omega
theorem mem_all {n₀ : Nat} {W : World} {a : Option Addr} (l : TL) (h : l.Mem n₀ W a 0) : ∀ x ∈ l.list, x.Mem n₀ W := by
  intro x hx
  obtain ⟨j, hj, rfl⟩ := List.mem_iff_getElem.1 hx
  exact (TL.Mem.at l 0 h j _ (List.getElem?_eq_getElem hj)).2
theorem own_c {w : World} {a : Option Addr} {n c : Nat} {zs : List Int} (h : Own w (.slice a n c) zs) : zs.length ≤ c := by
  obtain ⟨a', c', e, hle, _, hn, _⟩ := h.shape
  cases e
  exact hle
theorem below_grown {w w' : World} (hg : w.grownBy w' (Value.slice none 0 0).ownBlock) : Below w.heap.size w w' := ⟨hg.os, hg.tape, hg.output, hg.size, fun k hk => hg.block k hk (by simp [Value.ownBlock])⟩
theorem Bl.wider {n₀ n₁ : Nat} {W : World} {a : Option Addr} {ds : List Bool} (h : n₀ ≤ n₁) (k : Bl n₀ W a ds) : Bl n₁ W a ds := by
  rcases k with k | ⟨b, o, rfl, hlt, hc⟩
  · exact .inl k
  · exact .inr ⟨b, o, rfl, by omega, hc⟩
/-- does o begin with l? -/
def begV (o l : List T) : Bool := decide (l.length ≤ o.length) && sameL (o.take l.length) l
theorem within {n₀ : Nat} {W : World} (ds : List Bool) (l o : List T) (p : Nat) (hl : ∀ x ∈ l, Fine n₀ W x) (ho : ∀ x ∈ o, Fine n₀ W x) (hy : Byts (tupB ds 0 o)) (hp : p < (tupB ds 0 l).length) (h2 : ∀ i, p < i → i < (tupB ds 0 l).length → (tupB ds 0 l).getD i 0 = 255) :
    begV o l = (decide (0 ≤ ordI (tupB ds 0 o) (tupB ds 0 l)) && decide (ordI (tupB ds 0 o) (aft (tupB ds 0 l) p) < 0)) := by
  rw [← beg_mid _ _ p hp hy h2]
  have h := tup_begins ds l o 0 hl ho
  rw [Bool.eq_iff_iff]
  simp only [begV, Bool.and_eq_true, decide_eq_true_eq]
  rw [← h]
  constructor
  · rintro ⟨z, hz⟩; exact beg_of _ _ z hz
  · intro hb; exact beg_is _ _ hb
set_option maxHeartbeats 6400000 in
set_option maxRecDepth 1000000 in
theorem walk (la ra oa da : Option Addr) (lc rc oc dc : Nat) (l m o : TL) (ds : List Bool) (w : World) (hl : l.Mem w.heap.size w la 0) (hm : m.Mem w.heap.size w ra 0) (ho : o.Mem w.heap.size w oa 0) (hd : Bl w.heap.size w da ds) (hll : l.list.length ≤ 9223372036854775807) (hml : m.list.length ≤ 9223372036854775807) (hol : o.list.length ≤ 9223372036854775807) (hdl : ds.length ≤ 9223372036854775807) (sl : l.Szd) (sm : m.Szd) (so : o.Szd) (nl : la = none → l.list = [] ∧ lc = 0) (nm : ra = none → m.list = [] ∧ rc = 0) (hoc : o.list.length ≤ oc) :
    Calls Try.prog 5 #[.slice la l.list.length lc, .slice ra m.list.length rc, .slice oa o.list.length oc, .slice da ds.length dc] w fun e w' => e = .returned (.bool true) ∧ Below w.heap.size w w' := by
  have HF0 := hide (Fr.refl w)
  have HMl := hide (fun W (h : Below w.heap.size w W) (hs : w.heap.size ≤ W.heap.size) => much_gen w.heap.size la lc l W (hl.on h) sl hll hs)
  have HMm := hide (fun W (h : Below w.heap.size w W) (hs : w.heap.size ≤ W.heap.size) => much_gen w.heap.size ra rc m W (hm.on h) sm hml hs)
  have HMo := hide (fun W (h : Below w.heap.size w W) (hs : w.heap.size ≤ W.heap.size) => much_gen w.heap.size oa oc o W (ho.on h) so hol hs)
  have HEl := hide (fun W (h : Below w.heap.size w W) (hs : w.heap.size ≤ W.heap.size) (hw : l.list.length + l.wt ≤ 20000) => encode_gen w.heap.size la lc l da dc ds W (hl.on h) (fun c hc => by have := TL.wt_mem l c hc; omega) hll (hd.on h) hdl hs)
  have HEo := hide (fun W (h : Below w.heap.size w W) (hs : w.heap.size ≤ W.heap.size) (hw : o.list.length + o.wt ≤ 20000) => encode_gen w.heap.size oa oc o da dc ds W (ho.on h) (fun c hc => by have := TL.wt_mem o c hc; omega) hol (hd.on h) hdl hs)
  have HEa : Hid (∀ B W v, Below w.heap.size w W → w.heap.size ≤ W.heap.size → l.list.length + l.wt ≤ 20000 → m.list.length + m.wt ≤ 20000 → W.ownsRow B 32 7 v (l.list.length + m.list.length) (l.cells ++ m.cells) → Calls Try.prog 9 #[v, .slice da ds.length dc] W fun e w' => EncOut ds (l.list ++ m.list) W e w' ∧ True) := by
    intro B W v h hs h1 h2 hown
    have e : (l.app m).list = l.list ++ m.list := TL.app_list l m
    have ec : (l.app m).cells = l.cells ++ m.cells := TL.app_cells l m
    obtain ⟨a, c, rfl, hM⟩ := owns_mem (l.app m) (B := B) (v := v) (W := W) (by rw [e, ec, List.length_append]; exact hown) (by
      intro c hc
      rw [e] at hc
      refine T.Mem.wider hs ?_
      rcases List.mem_append.1 hc with hc | hc
      · exact (mem_all l hl c hc).on h
      · exact (mem_all m hm c hc).on h)
    have := encode_gen W.heap.size a c (l.app m) da dc ds W hM (by
      intro c hc
      rw [e] at hc
      rcases List.mem_append.1 hc with hc | hc
      · have := TL.wt_mem l c hc; omega
      · have := TL.wt_mem m c hc; omega) (by rw [e, List.length_append]; omega) (Bl.wider hs (hd.on h)) hdl (Nat.le_refl _)
    rw [e] at this ⊢
    exact this
  have HYl := hide (encB_byts ds l.list (mem_all l hl))
  have HYo := hide (encB_byts ds o.list (mem_all o ho))
  have HYa : Hid (Byts (encB ds (l.list ++ m.list))) := encB_byts (n₀ := w.heap.size) (W := w) ds _ (by
    intro c hc
    rcases List.mem_append.1 hc with hc | hc
    · exact mem_all l hl c hc
    · exact mem_all m hm c hc)
  have HXa : Hid (encE ds l.list = 0 → encE ds (l.list ++ m.list) = 0 → ∃ z, encB ds (l.list ++ m.list) = encB ds l.list ++ z) := by
    intro h1 h2
    obtain ⟨_, b1, _⟩ := encE_ok ds _ h1
    obtain ⟨_, b2, _⟩ := encE_ok ds _ h2
    exact ⟨_, by rw [b1, b2, tup_app]⟩
  have HPp : Hid (encE ds l.list = 0 → l.list ≠ [] → ∃ p, p < (encB ds l.list).length ∧ (encB ds l.list).getD p 0 < 255 ∧ ∀ i, p < i → i < (encB ds l.list).length → (encB ds l.list).getD i 0 = 255) := by
    intro h1 h2
    obtain ⟨o1, b1, _⟩ := encE_ok ds _ h1
    refine last_below _ HYl.out ?_
    rw [b1]
    exact tup_first (n₀ := w.heap.size) (W := w) ds l.list (fun x hx => ⟨o1 x hx, mem_all l hl x hx, TL.Szd.at l sl x hx⟩) h2
  have HWi : Hid (encE ds l.list = 0 → encE ds o.list = 0 → ∀ p, p < (encB ds l.list).length → (∀ i, p < i → i < (encB ds l.list).length → (encB ds l.list).getD i 0 = 255) → begV o.list l.list = (decide (0 ≤ ordI (encB ds o.list) (encB ds l.list)) && decide (ordI (encB ds o.list) (aft (encB ds l.list) p) < 0))) := by
    intro h1 h2 p hp hq
    obtain ⟨o1, b1, _⟩ := encE_ok ds _ h1
    obtain ⟨o2, b2, _⟩ := encE_ok ds _ h2
    have hy := HYo.out
    rw [b1] at hp hq ⊢
    rw [b2] at hy ⊢
    exact within (n₀ := w.heap.size) (W := w) ds l.list o.list p (fun x hx => ⟨o1 x hx, mem_all l hl x hx, TL.Szd.at l sl x hx⟩) (fun x hx => ⟨o2 x hx, mem_all o ho x hx, TL.Szd.at o so x hx⟩) hy hp hq
  have HSm : Hid (encE ds l.list = 0 → encE ds o.list = 0 → ∀ W k, Below w.heap.size w W → w.heap.size ≤ W.heap.size → l.list.length ≤ o.list.length → Calls Try.prog 17 #[.slice oa l.list.length k, .slice la l.list.length lc] W fun e w' => e = .returned (.bool (sameL (o.list.take l.list.length) l.list)) ∧ Below W.heap.size W w') := by
    intro h1 h2 W k h hs hle
    obtain ⟨o1, b1, _⟩ := encE_ok ds _ h1
    obtain ⟨o2, b2, _⟩ := encE_ok ds _ h2
    have e := TL.first_list l.list.length o
    have e2 : (o.first l.list.length).list.length = l.list.length := by rw [e, List.length_take]; omega
    have := sames_gen w.heap.size W oa la k lc (o.first l.list.length) l hs (TL.first_mem _ o 0 (ho.on h)) (hl.on h) (by rw [e2]; exact hll) hll (fun c hc => T.nf_of c (one_cl c (o2 c (by rw [e] at hc; exact List.mem_of_mem_take hc)))) (fun c hc => T.nf_of c (one_cl c (o1 c hc))) _ rfl
    rwa [e2, e] at this
  have HLl : Hid ((encB ds l.list).length ≤ 1000) := by
    unfold Hid encB
    split
    · rename_i h
      have h4 := (encE_ok ds _ h).2.2
      have := tupB_len ds l.list 0
      omega
    · simp
  have hel := encE_bd ds l.list
  have heo := encE_bd ds o.list
  have hea := encE_bd ds (l.list ++ m.list)
  have HAl := hide (fun W (h : Below w.heap.size w W) => hl.on h)
  have HAm := hide (fun W (h : Below w.heap.size w W) => hm.on h)
  have HNl := hide nl
  have HNm := hide nm
  simp only [EncOut] at HEl HEo HEa
  generalize encB ds l.list = xs at *
  generalize encB ds o.list = ys at *
  generalize encB ds (l.list ++ m.list) = zs at *
  generalize encE ds l.list = el at *
  generalize encE ds o.list = eo at *
  generalize encE ds (l.list ++ m.list) = ea at *
  clear hl hm ho hd sl sm so nl nm
  have HL0 : Hid (l.list ≠ [] ↔ 0 < l.list.length) := by
    rw [Hid]
    constructor
    · intro h; exact List.length_pos_iff.2 h
    · intro h; exact List.length_pos_iff.1 h
  generalize hbw : w.heap.size = b at *
  have HBW := hide hbw
  clear hbw
  go_enter Try.func5, Try.ntmps5
  go_wp2_with fail
  refine (HMl.out _ HF0.out.below HF0.out.size).mono ?_
  rintro e W1 ⟨⟨β, rfl, hβ⟩, hb⟩
  have HF1 := hide (HF0.out.on hb)
  clear hb
  cases β
  case true =>
    clear hβ
    go_wp2_with fail
    refine (known_any _).mono ?_
    rintro e W2 ⟨rfl, hb⟩
    have HF2 := hide (HF1.out.on hb)
    clear hb
    go_wp2
    go_ret
    exact ⟨rfl, HF2.out.below⟩
  have hlw := hβ rfl
  clear hβ
  go_wp2_with fail
  refine (HMm.out _ HF1.out.below HF1.out.size).mono ?_
  rintro e W2 ⟨⟨β, rfl, hβ⟩, hb⟩
  have HF2 := hide (HF1.out.on hb)
  clear hb
  cases β
  case true =>
    clear hβ
    go_wp2_with fail
    refine (known_any _).mono ?_
    rintro e W3 ⟨rfl, hb⟩
    have HF3 := hide (HF2.out.on hb)
    clear hb
    go_wp2
    go_ret
    exact ⟨rfl, HF3.out.below⟩
  have hmw := hβ rfl
  clear hβ
  go_wp2_with fail
  refine (HMo.out _ HF2.out.below HF2.out.size).mono ?_
  rintro e W3 ⟨⟨β, rfl, hβ⟩, hb⟩
  have HF3 := hide (HF2.out.on hb)
  clear hb
  cases β
  case true =>
    clear hβ
    go_wp2_with fail
    refine (known_any _).mono ?_
    rintro e W4 ⟨rfl, hb⟩
    have HF4 := hide (HF3.out.on hb)
    clear hb
    go_wp2
    go_ret
    exact ⟨rfl, HF4.out.below⟩
  have how := hβ rfl
  clear hβ
  by_cases hdb : 20000 < ds.length
  · have hdd : decide ((20000 : Int) < (ds.length : Int)) = true := by simp; omega
    go_wp2_with fail
    refine (known_any _).mono ?_
    rintro e W4 ⟨rfl, hb⟩
    have HF4 := hide (HF3.out.on hb)
    clear hb
    go_wp2
    go_ret
    exact ⟨rfl, HF4.out.below⟩
  have hdd : decide ((20000 : Int) < (ds.length : Int)) = false := by simp; omega
  clear hdb
  go_wp2_with fail
  refine (known_any _).mono ?_
  rintro e W4 ⟨rfl, hb⟩
  have HF4 := hide (HF3.out.on hb)
  clear hb
  go_wp2_with fail
  refine (HEl.out _ HF4.out.below HF4.out.size hlw).mono ?_
  rintro e W5 ⟨⟨⟨a1, c1, rfl, ho⟩, hb⟩, -⟩
  have HF5 := hide (HF4.out.on hb)
  have HO1 := hide ho
  have HM5 := hide (HAl.out _ HF5.out.below)
  clear hb ho HF1 HF2 HF3 HF4
  have HLw : Hid (l.list.length + m.list.length ≤ 100000) := by rw [Hid]; omega
  go_wp2_with (first | (at_builtin; refine wpList_append_vals (by rfl) (.tmp 45) (.tmp 46) (by rfl) W5.heap.size b (.slice none 0 0) 0 [] (by rfl) (World.ownsRow_nil _ W5.heap.size 32 7) la lc l (by rfl) HM5.out HNl.out (by have := HLw.out; omega) (Nat.le_refl _) ?_; intro v1 W6 hown1 hg1; rw [Nat.zero_add, List.nil_append] at hown1; obtain ⟨a6, c6, rfl⟩ := ownsRow_shape hown1; have HOw6 := hide hown1; have HG6 : Hid (Fr W5.heap.size W5 W6) := ⟨below_grown hg1, hg1.size⟩; have HM6 := hide (HAm.out _ (HF5.out.on HG6.out.below).below); clear hown1 hg1) | (at_builtin; refine wpList_append_vals (by rfl) (.tmp 48) (.tmp 49) (by rfl) W5.heap.size b (.slice a6 l.list.length c6) l.list.length l.cells (by rfl) HOw6.out ra rc m (by rfl) HM6.out HNm.out HLw.out HG6.out.size ?_; intro v2 W7 hown2 hg2; obtain ⟨a7, c7, rfl⟩ := ownsRow_shape hown2; have HOw7 := hide hown2; have HG7 : Hid (Fr W5.heap.size W5 W7) := HG6.out.grown hg2 (fun k hk => (World.ownsRow.lt HOw6.out k hk).1); clear hown2 hg2))
  have HF7 := hide (HF5.out.on HG7.out.below)
  refine (HEa.out W5.heap.size _ _ HF7.out.below HF7.out.size hlw hmw HOw7.out).mono ?_
  rintro e W8 ⟨⟨⟨a2, c2, rfl, ho⟩, hb⟩, -⟩
  have HF8 := hide (HF7.out.on hb)
  have HRx8 := hide ((HO1.out.row.below HG7.out.below).below hb)
  have HN1 := hide (own_n HO1.out).2
  have HC1 := hide (own_c HO1.out)
  have HRz8 := hide ho.row
  have HN2 := hide (own_n ho).2
  clear hb ho HO1 HG6 HG7 HOw6 HOw7 HM5 HM6 HF5 HF7
  go_wp2_with fail
  refine (HEo.out _ HF8.out.below HF8.out.size how).mono ?_
  rintro e W9 ⟨⟨⟨a3, c3, rfl, ho⟩, hb⟩, -⟩
  have HF9 := hide (HF8.out.on hb)
  have HRx9 := hide (HRx8.out.below hb)
  have HRz9 := hide (HRz8.out.below hb)
  have HRy9 := hide ho.row
  have HN3 := hide (own_n ho).2
  clear hb ho HRx8 HRz8 HF8
  by_cases h1 : el = 0
  case neg =>
    have hd1 : ((el : Int) != 0) = true := by simp; omega
    have hd1' : ((el : Int) == 0) = false := by simp; omega
    go_wp2
    go_ret
    exact ⟨rfl, HF9.out.below⟩
  subst h1
  by_cases hl0 : 0 < l.list.length
  case neg =>
    have e0 : l.list.length = 0 := by omega
    have hd0 : ((l.list.length : Int) == 0) = true := by simp [e0]
    go_wp2
    go_ret
    exact ⟨rfl, HF9.out.below⟩
  have hd0 : ((l.list.length : Int) == 0) = false := by rw [beq_eq_false_iff_ne]; omega
  obtain ⟨p, hp, hp1, hp2⟩ := HPp.out (by simp) (HL0.out.2 hl0)
  have HP1 := hide hp1
  have HP2 := hide hp2
  have hlx := HLl.out
  have HAf := hide (after_at a1 xs.length c1 xs p W9 rfl (by omega) HC1.out HRx9.out HYl.out hp hp1 hp2)
  clear hp1 hp2
  go_wp2_with fail
  refine HAf.out.mono ?_
  rintro e W10 ⟨v, rfl, hown, hb⟩
  obtain ⟨ax, nx, cx, rfl, HNx0⟩ := hown.own.shape2
  have HNx : Hid (nx = (aft xs p).length) := HNx0.out
  have HNt := hide (own_n hown.own).2
  have HRt : Hid (Row W10 ax (aft xs p)) := hown.own.row
  have HYt : Hid (Byts (aft xs p)) := by
    intro c hc
    unfold aft at hc
    rcases List.mem_append.1 hc with hc | hc
    · exact HYl.out c (List.mem_of_mem_take hc)
    · rw [List.mem_singleton.1 hc]
      have := HYl.out.at p
      have := HP1.out
      omega
  have HF10 := hide (HF9.out.on hb)
  have HRx := hide (HRx9.out.below hb)
  have HRz := hide (HRz9.out.below hb)
  have HRy := hide (HRy9.out.below hb)
  clear hown hb HAf HNx0 HRx9 HRz9 HRy9 HF9
  have hp2 := HP2.out
  by_cases h2 : ea = 0
  · subst h2
    have HBz : Hid (0 ≤ ordI zs xs ∧ ordI zs (aft xs p) < 0) := by
      obtain ⟨z, hz⟩ := HXa.out (by simp) (by simp)
      rw [Hid, hz]
      exact ⟨ordI_begins xs z, before_aft xs z p hp⟩
    have HO3 := hide (order_any a2 a1 zs.length c2 xs.length c1 zs xs W10 rfl rfl HN2.out HN1.out HRz.out HRx.out HYa.out HYl.out)
    have HO4 := hide (order_any a2 ax zs.length c2 nx cx zs (aft xs p) W10 rfl HNx.out.symm HN2.out HNt.out HRz.out HRt.out HYa.out HYt.out)
    generalize ordI zs xs = u at *
    generalize ordI zs (aft xs p) = v at *
    have hdu : decide (u < (0 : Int)) = false := by simp; exact HBz.out.1
    have hdv : decide ((0 : Int) ≤ v) = false := by simp; exact HBz.out.2
    go_wp2_with fail
    refine HO3.out.mono ?_
    rintro e V1 ⟨rfl, rfl⟩
    go_wp2_with fail
    refine HO4.out.mono ?_
    rintro e V2 ⟨rfl, rfl⟩
    by_cases h3 : eo = 0
    · subst h3
      have HQ := hide (HWi.out (by simp) (by simp) p hp hp2)
      by_cases hle : l.list.length ≤ o.list.length
      · have hdl2 : decide ((l.list.length : Int) ≤ (o.list.length : Int)) = true := by simp; omega
        have hlo : (l.list.length : Int) ≤ (oc : Int) := by omega
        have HQ' : Hid (sameL (o.list.take l.list.length) l.list = (decide (0 ≤ ordI ys xs) && decide (ordI ys (aft xs p) < 0))) := by
          rw [Hid, ← HQ.out, begV, decide_eq_true hle, Bool.true_and]
        clear HQ
        have HSk := hide (fun k => HSm.out (by simp) (by simp) V2 k HF10.out.below HF10.out.size hle)
        generalize sameL (o.list.take l.list.length) l.list = r at *
        have HQ := HQ'
        clear HQ'
        go_wp2_with fail
        refine (HSk.out _).mono ?_
        rintro e W11 ⟨rfl, hb11⟩
        have HF11 := hide (HF10.out.on hb11)
        have HB11 := hide hb11
        clear hb11
        have HOx := hide (order_any a3 a1 ys.length c3 xs.length c1 ys xs W11 rfl rfl HN3.out HN1.out (HRy.out.below HB11.out) (HRx.out.below HB11.out) HYo.out HYl.out)
        have HOy := hide (order_any a3 ax ys.length c3 nx cx ys (aft xs p) W11 rfl HNx.out.symm HN3.out HNt.out (HRy.out.below HB11.out) (HRt.out.below HB11.out) HYo.out HYt.out)
        generalize ordI ys xs = x at *
        generalize ordI ys (aft xs p) = y at *
        go_wp2_with fail
        refine HOx.out.mono ?_
        rintro e V1 ⟨rfl, rfl⟩
        by_cases hx : 0 ≤ x
        · have hdx : decide ((0 : Int) ≤ x) = true := by simp [hx]
          rw [hdx, Bool.true_and] at HQ
          go_wp2_with fail
          refine HOy.out.mono ?_
          rintro e V2 ⟨rfl, rfl⟩
          by_cases hy : y < 0
          · have hdy : decide (y < (0 : Int)) = true := by simp [hy]
            rw [hdy] at HQ
            have hq := HQ.out
            subst hq
            go_wp2
            go_ret
            exact ⟨rfl, HF11.out.below⟩
          · have hdy : decide (y < (0 : Int)) = false := by simp [hy]
            rw [hdy] at HQ
            have hq := HQ.out
            subst hq
            go_wp2
            go_ret
            exact ⟨rfl, HF11.out.below⟩
        · have hdx : decide ((0 : Int) ≤ x) = false := by simp [hx]
          rw [hdx, Bool.false_and] at HQ
          have hq := HQ.out
          subst hq
          go_wp2
          go_ret
          exact ⟨rfl, HF11.out.below⟩
      · have hdl2 : decide ((l.list.length : Int) ≤ (o.list.length : Int)) = false := by simp; omega
        have HQ' : Hid (false = (decide (0 ≤ ordI ys xs) && decide (ordI ys (aft xs p) < 0))) := by
          rw [Hid, ← HQ.out, begV, decide_eq_false hle, Bool.false_and]
        clear HQ
        have HQ := HQ'
        clear HQ'
        have HB11 := hide (Below.refl V2.heap.size V2)
        have HOx := hide (order_any a3 a1 ys.length c3 xs.length c1 ys xs V2 rfl rfl HN3.out HN1.out (HRy.out.below HB11.out) (HRx.out.below HB11.out) HYo.out HYl.out)
        have HOy := hide (order_any a3 ax ys.length c3 nx cx ys (aft xs p) V2 rfl HNx.out.symm HN3.out HNt.out (HRy.out.below HB11.out) (HRt.out.below HB11.out) HYo.out HYt.out)
        generalize ordI ys xs = x at *
        generalize ordI ys (aft xs p) = y at *
        go_wp2_with fail
        refine HOx.out.mono ?_
        rintro e V1 ⟨rfl, rfl⟩
        by_cases hx : 0 ≤ x
        · have hdx : decide ((0 : Int) ≤ x) = true := by simp [hx]
          rw [hdx, Bool.true_and] at HQ
          go_wp2_with fail
          refine HOy.out.mono ?_
          rintro e V2 ⟨rfl, rfl⟩
          by_cases hy : y < 0
          · have hdy : decide (y < (0 : Int)) = true := by simp [hy]
            rw [hdy] at HQ
            have hq := HQ.out
            exact absurd hq (by simp)
          · have hdy : decide (y < (0 : Int)) = false := by simp [hy]
            rw [hdy] at HQ
            have hq := HQ.out
            clear hq
            go_wp2
            go_ret
            exact ⟨rfl, HF10.out.below⟩
        · have hdx : decide ((0 : Int) ≤ x) = false := by simp [hx]
          rw [hdx, Bool.false_and] at HQ
          have hq := HQ.out
          clear hq
          go_wp2
          go_ret
          exact ⟨rfl, HF10.out.below⟩
    · have hd3 : ((eo : Int) != 0) = true := by simp; omega
      have hd3' : ((eo : Int) == 0) = false := by simp; omega
      go_wp2
      go_ret
      exact ⟨rfl, HF10.out.below⟩
  · have hd2 : ((ea : Int) == 0) = false := by simp; omega
    by_cases h3 : eo = 0
    · subst h3
      have HQ := hide (HWi.out (by simp) (by simp) p hp hp2)
      by_cases hle : l.list.length ≤ o.list.length
      · have hdl2 : decide ((l.list.length : Int) ≤ (o.list.length : Int)) = true := by simp; omega
        have hlo : (l.list.length : Int) ≤ (oc : Int) := by omega
        have HQ' : Hid (sameL (o.list.take l.list.length) l.list = (decide (0 ≤ ordI ys xs) && decide (ordI ys (aft xs p) < 0))) := by
          rw [Hid, ← HQ.out, begV, decide_eq_true hle, Bool.true_and]
        clear HQ
        have HSk := hide (fun k => HSm.out (by simp) (by simp) W10 k HF10.out.below HF10.out.size hle)
        generalize sameL (o.list.take l.list.length) l.list = r at *
        have HQ := HQ'
        clear HQ'
        go_wp2_with fail
        refine (HSk.out _).mono ?_
        rintro e W11 ⟨rfl, hb11⟩
        have HF11 := hide (HF10.out.on hb11)
        have HB11 := hide hb11
        clear hb11
        have HOx := hide (order_any a3 a1 ys.length c3 xs.length c1 ys xs W11 rfl rfl HN3.out HN1.out (HRy.out.below HB11.out) (HRx.out.below HB11.out) HYo.out HYl.out)
        have HOy := hide (order_any a3 ax ys.length c3 nx cx ys (aft xs p) W11 rfl HNx.out.symm HN3.out HNt.out (HRy.out.below HB11.out) (HRt.out.below HB11.out) HYo.out HYt.out)
        generalize ordI ys xs = x at *
        generalize ordI ys (aft xs p) = y at *
        go_wp2_with fail
        refine HOx.out.mono ?_
        rintro e V1 ⟨rfl, rfl⟩
        by_cases hx : 0 ≤ x
        · have hdx : decide ((0 : Int) ≤ x) = true := by simp [hx]
          rw [hdx, Bool.true_and] at HQ
          go_wp2_with fail
          refine HOy.out.mono ?_
          rintro e V2 ⟨rfl, rfl⟩
          by_cases hy : y < 0
          · have hdy : decide (y < (0 : Int)) = true := by simp [hy]
            rw [hdy] at HQ
            have hq := HQ.out
            subst hq
            go_wp2
            go_ret
            exact ⟨rfl, HF11.out.below⟩
          · have hdy : decide (y < (0 : Int)) = false := by simp [hy]
            rw [hdy] at HQ
            have hq := HQ.out
            subst hq
            go_wp2
            go_ret
            exact ⟨rfl, HF11.out.below⟩
        · have hdx : decide ((0 : Int) ≤ x) = false := by simp [hx]
          rw [hdx, Bool.false_and] at HQ
          have hq := HQ.out
          subst hq
          go_wp2
          go_ret
          exact ⟨rfl, HF11.out.below⟩
      · have hdl2 : decide ((l.list.length : Int) ≤ (o.list.length : Int)) = false := by simp; omega
        have HQ' : Hid (false = (decide (0 ≤ ordI ys xs) && decide (ordI ys (aft xs p) < 0))) := by
          rw [Hid, ← HQ.out, begV, decide_eq_false hle, Bool.false_and]
        clear HQ
        have HQ := HQ'
        clear HQ'
        have HB11 := hide (Below.refl W10.heap.size W10)
        have HOx := hide (order_any a3 a1 ys.length c3 xs.length c1 ys xs W10 rfl rfl HN3.out HN1.out (HRy.out.below HB11.out) (HRx.out.below HB11.out) HYo.out HYl.out)
        have HOy := hide (order_any a3 ax ys.length c3 nx cx ys (aft xs p) W10 rfl HNx.out.symm HN3.out HNt.out (HRy.out.below HB11.out) (HRt.out.below HB11.out) HYo.out HYt.out)
        generalize ordI ys xs = x at *
        generalize ordI ys (aft xs p) = y at *
        go_wp2_with fail
        refine HOx.out.mono ?_
        rintro e V1 ⟨rfl, rfl⟩
        by_cases hx : 0 ≤ x
        · have hdx : decide ((0 : Int) ≤ x) = true := by simp [hx]
          rw [hdx, Bool.true_and] at HQ
          go_wp2_with fail
          refine HOy.out.mono ?_
          rintro e V2 ⟨rfl, rfl⟩
          by_cases hy : y < 0
          · have hdy : decide (y < (0 : Int)) = true := by simp [hy]
            rw [hdy] at HQ
            have hq := HQ.out
            exact absurd hq (by simp)
          · have hdy : decide (y < (0 : Int)) = false := by simp [hy]
            rw [hdy] at HQ
            have hq := HQ.out
            clear hq
            go_wp2
            go_ret
            exact ⟨rfl, HF10.out.below⟩
        · have hdx : decide ((0 : Int) ≤ x) = false := by simp [hx]
          rw [hdx, Bool.false_and] at HQ
          have hq := HQ.out
          clear hq
          go_wp2
          go_ret
          exact ⟨rfl, HF10.out.below⟩
    · have hd3 : ((eo : Int) != 0) = true := by simp; omega
      have hd3' : ((eo : Int) == 0) = false := by simp; omega
      go_wp2
      go_ret
      exact ⟨rfl, HF10.out.below⟩

set_option maxHeartbeats 1600000 in
set_option maxRecDepth 100000 in
theorem lifted (os : Os) (started : os.Started) (H : Type) (enc : TypeId × Value → H) :
    ReturnsInHanded {} Try.checked os 5 .any (Rows.keyWithinSpec.pre6 enc Try.prog Try.f5 Rows.keyWithinRow.domain false) (Rows.keyWithinSpec.post enc Try.prog Try.f5 false true false false) := by
  refine returnsInHanded_of_change (C := Try.checked) own started (by kernel_rfl) Try.func5
    (ChangeSpec.witness6 (enc := enc) (C := Try.checked) false ⟨#[], #[.slice none 0 0, .slice none 0 0, .slice none 0 0, .slice none 0 0], []⟩ 8 (by kernel_rfl) (by kernel_rfl) (by kernel_rfl) (by kernel_rfl)) ?_
  intro W base args ds gs before hval0 hW hcnd _
  have hval : ∀ (j : Nat) t v, Try.f5.params[j]? = some t → args[j]? = some v → Value.okWide Try.prog W .any base t v := hval0
  have hW' := hW
  obtain ⟨p, q, hA0, hV, rfl, hfz, hnd⟩ := hW
  have hA : DataW.TrodAll enc Try.prog W 0 (fun _ => true) true Try.f5.params.toList args.toList ds p := hA0
  rw [Try.params5] at hA hval
  obtain ⟨v0, vs0, d0, ds0, p0, q0, hargs, rfl, rfl, h0, r0⟩ := trodAll_cons hA
  obtain ⟨v1, vs1, d1, ds1, p1, q1, rfl, rfl, rfl, h1, r1⟩ := trodAll_cons r0
  obtain ⟨v2, vs2, d2, ds2, p2, q2, rfl, rfl, rfl, h2, r2⟩ := trodAll_cons r1
  obtain ⟨v3, vs3, d3, ds3, p3, q3, rfl, rfl, rfl, h3, r3⟩ := trodAll_cons r2
  obtain ⟨rfl, rfl, rfl⟩ := trodAll_nil r3
  obtain rfl : args = #[v0, v1, v2, v3] := by cases args; simp_all
  obtain ⟨rfl, rfl⟩ := trodVars_none hV
  obtain ⟨a0, len0, cap0, rfl⟩ := okWide_slice Try.underlying24 (hval 0 24 v0 rfl rfl)
  have k0 := h0
  have lt0 : ∀ x ∈ p0, x.block < W.heap.size := by obtain ⟨m, hm⟩ := k0; exact DataW.trod_lt m _ _ _ hm
  obtain ⟨x0, y0, l, e0, m0, z0, n0, s0, c0⟩ : ∃ la lc, ∃ l : TL, Value.slice a0 len0 cap0 = .slice la l.list.length lc ∧ l.Mem W.heap.size W la 0 ∧ (la = none → l.list = [] ∧ lc = 0) ∧ l.list.length ≤ 9223372036854775807 ∧ l.Szd ∧ l.list.length ≤ lc := by
    obtain ⟨fuel, hf⟩ := h0
    exact read_vals fuel _ _ hf
  cases e0
  obtain ⟨a1, len1, cap1, rfl⟩ := okWide_slice Try.underlying24 (hval 1 24 v1 rfl rfl)
  have k1 := h1
  have lt1 : ∀ x ∈ p1, x.block < W.heap.size := by obtain ⟨m, hm⟩ := k1; exact DataW.trod_lt m _ _ _ hm
  obtain ⟨x1, y1, m, e1, m1, z1, n1, s1, c1⟩ : ∃ la lc, ∃ l : TL, Value.slice a1 len1 cap1 = .slice la l.list.length lc ∧ l.Mem W.heap.size W la 0 ∧ (la = none → l.list = [] ∧ lc = 0) ∧ l.list.length ≤ 9223372036854775807 ∧ l.Szd ∧ l.list.length ≤ lc := by
    obtain ⟨fuel, hf⟩ := h1
    exact read_vals fuel _ _ hf
  cases e1
  obtain ⟨a2, len2, cap2, rfl⟩ := okWide_slice Try.underlying24 (hval 2 24 v2 rfl rfl)
  have k2 := h2
  have lt2 : ∀ x ∈ p2, x.block < W.heap.size := by obtain ⟨m, hm⟩ := k2; exact DataW.trod_lt m _ _ _ hm
  obtain ⟨x2, y2, o, e2, m2, z2, n2, s2, c2⟩ : ∃ la lc, ∃ l : TL, Value.slice a2 len2 cap2 = .slice la l.list.length lc ∧ l.Mem W.heap.size W la 0 ∧ (la = none → l.list = [] ∧ lc = 0) ∧ l.list.length ≤ 9223372036854775807 ∧ l.Szd ∧ l.list.length ≤ lc := by
    obtain ⟨fuel, hf⟩ := h2
    exact read_vals fuel _ _ hf
  cases e2
  obtain ⟨a3, len3, cap3, rfl⟩ := okWide_slice Try.underlying23 (hval 3 23 v3 rfl rfl)
  have k3 := h3
  have lt3 : ∀ x ∈ p3, x.block < W.heap.size := by obtain ⟨m, hm⟩ := k3; exact DataW.trod_lt m _ _ _ hm
  obtain ⟨da, dc, dd, e3, m3, n3⟩ : ∃ da dc, ∃ ds : List Bool, Value.slice a3 len3 cap3 = .slice da ds.length dc ∧ Bl W.heap.size W da ds ∧ ds.length ≤ 9223372036854775807 := by
    obtain ⟨fuel, hf⟩ := h3
    exact read_bools fuel _ _ hf
  cases e3
  clear hA0 hval0
  refine (walk a0 a1 a2 a3 cap0 cap1 cap2 cap3 l m o dd W m0 m1 m2 m3 n0 n1 n2 n3 s0 s1 s2 z0 z1 c2).mono fun e W' ⟨he, bel⟩ => ?_
  subst he
  exact ⟨_, rfl, _, _, _, [], _, [], hW', trodAll_mk1 (shut_bool Try.underlying4 _), (trodAll_cons_mk (Below.trod laidOut (by kernel_rfl) (of_decide_eq_true (by kernel_rfl)) k0 bel lt0) (trodAll_cons_mk (Below.trod laidOut (by kernel_rfl) (of_decide_eq_true (by kernel_rfl)) k1 bel lt1) (trodAll_cons_mk (Below.trod laidOut (by kernel_rfl) (of_decide_eq_true (by kernel_rfl)) k2 bel lt2) (trodAll_cons_mk (Below.trod laidOut (by kernel_rfl) (of_decide_eq_true (by kernel_rfl)) k3 bel lt3) trodAll_mk0)))), rfl, bel.frame _, fun h => by cases h⟩

theorem over : Rows.keyWithinRow.holds Try.pinned (OpenSpec.ofChange Rows.keyWithinSpec) :=
  OpenClaim.holds_of_wide 5 Try.f5 rfl rfl rfl rfl rfl rfl rfl ⟨rfl, rfl, rfl, rfl, rfl⟩ rfl rfl rfl rfl rfl (by kernel_rfl) Try.func5 (by kernel_rfl)
    (of_decide_eq_true (by kernel_rfl)) (by unfold Func.isWrapper; first | (rw [if_pos (by decide +kernel)]; kernel_rfl) | (rw [if_neg (by decide +kernel)]; exact ⟨rfl, rfl⟩))
    (fun os started H enc _ => lifted os started H enc)

end Go.Proofs.Ytegoeaofjnpehab.Within
namespace Go.Proofs.Ytegoeaofjnpehab
theorem keyWithin_holds : Rows.KeyWithinSaid := Within.over
#print axioms keyWithin_holds
end Go.Proofs.Ytegoeaofjnpehab
