/- BufferBacks: the walk. -/
import Derived.Test.YtjccfbjdngjhfaaBH
namespace Go.Proofs.Ytjccfbjdngjhfaa
open Go.RowKit Go.Maps
set_option linter.unusedVariables false

/-- behind k of the second calls. -/
def Gb (w6 : World) (p B mk : Nat) (es0 : List Ee) (O0 : Nat → Prop) (k : Nat) (W : World) : Prop :=
  ∃ (j : Nat) (es : List Ee) (hs : List (List Ee)) (O : Nat → Prop), j ≤ k ∧ St W p B es (mk + j) hs O ∧ Go1 O0 w6 O W ∧ (hs ++ [es])[mk]? = some es0 ∧ es.length ≤ 300 + k ∧ ∀ i l, mk < i → (hs ++ [es])[i]? = some l → l.length ≤ 300 + k
theorem St.hlen {w : World} {p B n : Nat} {es : List Ee} {hs : List (List Ee)} {O : Nat → Prop} (h : St w p B es n hs O) : hs.length = n := by
  obtain ⟨sv, uv, xs, us, hh, h1, h2, h3, h4, h5, h6, h7⟩ := h
  rw [← h4, List.length_map, h1.len, h3]
theorem Gb.step {w6 W W1 W' : World} {p B mk j k : Nat} {es0 es : List Ee} {hs : List (List Ee)} {O0 O O' : Nat → Prop} {e : Ee} (hj : j ≤ k) (hgo : Go1 O0 w6 O W) (hat : (hs ++ [es])[mk]? = some es0) (hel : es.length ≤ 300 + k) (hle : ∀ i l, mk < i → (hs ++ [es])[i]? = some l → l.length ≤ 300 + k)
    (hb : Below W.heap.size W W1) (hst : St W' p B (put es e) (mk + j + 1) (hs ++ [es]) O') (hgo' : Go1 O W1 O' W') : Gb w6 p B mk es0 O0 (k + 1) W' := by
  have hp := (put_len es e).1
  refine ⟨j + 1, put es e, hs ++ [es], O', by omega, hst, (hgo.trans (Go1.of_below hb)).trans hgo', ?_, by omega, fun i l hi hl => ?_⟩
  · rw [List.getElem?_append_left (List.getElem?_eq_some_iff.1 hat).1]; exact hat
  · by_cases hlt : i < (hs ++ [es]).length
    · rw [List.getElem?_append_left hlt] at hl
      have := hle i l hi hl; omega
    · rw [List.getElem?_append_right (by omega)] at hl
      have hl' : l = put es e := by
        rcases hz : i - (hs ++ [es]).length with _ | z
        · rw [hz] at hl; simpa using hl.symm
        · rw [hz] at hl; simp at hl
      subst hl'; omega
theorem Gb.skip {w6 W : World} {p B mk k : Nat} {es0 : List Ee} {O0 : Nat → Prop} (h : Gb w6 p B mk es0 O0 k W) : Gb w6 p B mk es0 O0 (k + 1) W := by
  obtain ⟨j, es, hs, O, hj, h1, h2, h3, h4, h5⟩ := h
  exact ⟨j, es, hs, O, by omega, h1, h2, h3, by omega, fun i l hi hl => by have := h5 i l hi hl; omega⟩
theorem Gb.below {w6 W W' : World} {p B mk k : Nat} {es0 : List Ee} {O0 : Nat → Prop} (h : Gb w6 p B mk es0 O0 k W) (hb : Below W.heap.size W W') : Gb w6 p B mk es0 O0 k W' := by
  obtain ⟨j, es, hs, O, hj, h1, h2, h3, h4, h5⟩ := h
  exact ⟨j, es, hs, O, hj, h1.below hb, h2.trans (Go1.of_below hb), h3, h4, h5⟩
/-- a list of the call's own that the buffer does not write stays. -/
theorem Cl.go {B C : Nat} {w W : World} {v : Value} {ys : List En} {O O' : Nat → Prop} (h : Cl C w v ys) (hO : ∀ k, O k → k < C) (hg : Go1 O w O' W) : Cl C W v ys := by
  refine h.of_block (fun k hk => ?_) (fun y hy k hk => ?_)
  · have := h.block hk
    exact hg.mv.block k this.2.1 (fun e => by have := hO k e; omega)
  · have h1 := (h.each y hy).lt hk
    have h2 := (h.each y hy).ge hk
    exact hg.mv.block k h1 (fun e => by have := hO k e; omega)
theorem Cl.ens2 {C q : Nat} {w : World} {es : List Ee} {ys : List En} (h : Cl C w (.slice (some ⟨q, 0, none⟩) es.length es.length) ys) (he : ers ys = es) : Ens w (some ⟨q, 0, none⟩) es.length es.length ys := by
  obtain ⟨a4, c4, e4, hE4⟩ := h.ens
  have hyl : ys.length = es.length := by have := congrArg List.length he; rwa [ers_len] at this
  rw [hyl] at e4 hE4
  cases e4
  exact hE4
set_option maxHeartbeats 6400000 in
set_option maxRecDepth 1000000 in
theorem backs_walk (a : Option Addr) (n c : Nat) (xs : List Ac) (b : Option Addr) (m d : Nat) (ys : List Ac) (w : World) (h : Acs w a n c xs) (k : Acs w b m d ys) (hs : Sza xs) (ks : Sza ys) :
    Calls Try.prog 3 #[.slice a n c, .slice b m d] w fun e w' => e = .returned (.bool true) ∧ Below w.heap.size w w' := by
  have HE := hide h
  have HK := hide k
  have HMu := hide (much_any a n c xs w h hs)
  have HMu2 := hide (fun W (hW : Below w.heap.size w W) => much_any b m d ys W (k.below hW) ks)
  clear h k hs ks
  go_enter Try.func3, Try.ntmps3
  go_wp2_with fail
  refine HMu.out.mono ?_
  rintro e w1 ⟨hmu, hb1⟩
  have HB1 := hide hb1
  clear hb1
  rcases hmu with rfl | ⟨rfl, hn, hsm⟩
  · go_wp2
    go_ret
    exact ⟨rfl, HB1.out⟩
  go_wp2_with fail
  refine (HMu2.out w1 HB1.out).mono ?_
  rintro e w2 ⟨hmu, hb2⟩
  have HB2 := hide (HB1.out.trans (hb2.mono HB1.out.size))
  clear hb2
  rcases hmu with rfl | ⟨rfl, hm, hsm2⟩
  · go_wp2
    go_ret
    exact ⟨rfl, HB2.out⟩
  have hxl := HE.out.len
  have hyl := HK.out.len
  go_wp2_with fail
  refine (filled_any a n c xs w2 (HE.out.below HB2.out) (by omega) hsm).mono ?_
  rintro e w3 ⟨rfl, hs, O, hst, hb3⟩
  have hsmall := foldA_small hsm
  have hfl := foldA_len xs
  have hsl := sayN_le xs
  have HES := hide (fun e (he : e ∈ foldA xs) => (⟨Nat.le_trans (hsmall e he).1 (by omega), Nat.le_trans (hsmall e he).2 (by omega)⟩ : e.key.length ≤ 100000000 ∧ e.val.length ≤ 100000000))
  obtain ⟨mk, hmk⟩ : ∃ mk, mk = sayN xs := ⟨_, rfl⟩
  obtain ⟨es0, hes0⟩ : ∃ es0, es0 = foldA xs := ⟨_, rfl⟩
  rw [← hmk, ← hes0] at hst
  rw [← hmk] at hsl hfl
  rw [← hes0] at hfl HES
  have hel : es0.length ≤ 300 := by omega
  have hml : mk ≤ 300 := by omega
  have HB3 := hide (HB2.out.trans (hb3.mono HB2.out.size))
  have HST := hide hst
  have HSm2 := hide hsm2
  obtain ⟨p, hp⟩ : ∃ p, p = w2.heap.size := ⟨_, rfl⟩
  rw [← hp] at HST ⊢
  have HP : Hid (w.heap.size ≤ p) := by rw [hp]; exact HB2.out.size
  clear hb3 hst hsmall hsm hsm2 hmk hes0 hfl hsl hp
  go_wp2_with fail
  refine (known_any w3).mono ?_
  rintro e w4 ⟨rfl, hb4⟩
  have HB4 := hide (HB3.out.trans (hb4.mono HB3.out.size))
  have HST4 := hide (HST.out.below hb4)
  clear hb4
  go_wp2_with fail
  refine (mark_any HST4.out).mono ?_
  rintro e w5 ⟨rfl, hw5⟩
  rw [hw5]
  clear hw5 w5
  go_wp2_with fail
  refine (changes_st HST4.out (by omega) HES.out).mono ?_
  rintro e w6 ⟨cs, rfl, hey, hcl, hb6⟩
  have HEy := hide hey
  have HCl := hide hcl
  have HB6 := hide (HB4.out.trans (hb6.mono HB4.out.size))
  have HST6 := hide (HST4.out.below hb6)
  have HO : Hid (∀ k, O k → k < w4.heap.size) := fun k hk => HST4.out.lt hk
  have HG0 : Hid (Gb w6 p p mk es0 O 0 w6) := by
    have hh := HST6.out.hlen
    refine ⟨0, es0, hs, O, Nat.le_refl _, HST6.out, Go1.refl _ _, ?_, by omega, fun i l hi hl => ?_⟩
    · rw [List.getElem?_append_right (by omega), hh]; simp
    · have := (List.getElem?_eq_some_iff.1 hl).1
      simp at this; omega
  obtain ⟨q, hq⟩ : ∃ q, q = w4.heap.size := ⟨_, rfl⟩
  rw [← hq] at HCl HO ⊢
  clear hey hcl hb6 hq
  go_wp2
  go_loopw [8] (fun vi W => ∃ k : Nat, k ≤ m ∧ vi = .int .i64 (k : Int) ∧ Gb w6 p p mk es0 O k W) (fun vi _ => m - (intOf vi).toNat)
  case atStart => exact ⟨0, Nat.zero_le _, rfl, HG0.out⟩
  case round =>
    obtain ⟨k, hk, rfl, hgb⟩ := hrel
    have HGb := hide hgb
    obtain ⟨j, es, hh, O1, hj, hst, hgo, hat, hle1, hle2⟩ := hgb
    have HST1 := hide hst
    have HGo := hide hgo
    have HBw : Hid (Below w.heap.size w wr) := HB6.out.trans ((HST6.out.on hgo).mono HP.out)
    by_cases hlt : k < m
    · have d1 : (k : Int) < (m : Int) := by omega
      obtain ⟨x, b', off, hx, rfl, hbl, hat', hok⟩ := (HK.out.below HBw.out).at hlt
      have hsz := HSm2.out x (List.mem_of_getElem? hx)
      have hxk := hok.k
      have HAt := hide hat'
      have c0 := hat'.c0
      have c1 := hat'.c1
      have c2 := hat'.c2
      have HStep := hide (fun (e : Ee) (W1 W' : World) (O' : Nat → Prop) (hb : Below wr.heap.size wr W1) (hst' : St W' p p (put es e) (mk + j + 1) (hh ++ [es]) O') (hgo' : Go1 O1 W1 O' W') => Gb.step hj hgo hat hle1 hle2 hb hst' hgo')
      clear hst hgo hat hle2 hx hat'
      by_cases h2 : x.k % 8 < 2
      · have e1 : (x.k : Int) % 8 < 2 := by omega
        have e2 : ((((x.k : Int) % 8) == 2) : Bool) = false := by simp; omega
        have HP1 := hide (put_any (HST1.out.below (Below.refl _ _).drew) x.da x.ka x.db.length x.dc x.kb.length x.kc x.db x.kb (hok.data.below (Below.refl _ _).drew) (hok.keep.below (Below.refl _ _).drew) (by omega) (by omega) (by omega) (by omega))
        have hlow : b' < w.heap.size := by
          have := HK.out.row
          rcases this with h0 | ⟨b2, off', e, hl, _⟩
          · exfalso; have := HK.out.len; rw [h0] at this; simp at this; omega
          · cases e; exact hl
        clear hok hsz
        go_wp2
        go_region_held3 (fun W => W.cell? ⟨b', off + k * 5, none⟩ = some (.int .u8 (x.k : Int)) ∧ W.cell? ⟨b', off + k * 5 + 1, none⟩ = some (.slice x.da x.db.length x.dc) ∧ W.cell? ⟨b', off + k * 5 + 2, none⟩ = some (.slice x.ka x.kb.length x.kc)) ((refine ⟨?_, ?_, ?_⟩ <;> assumption)) ((first | (go_at_call 10; refine HP1.out.mono ?_; rintro e w8 ⟨rfl, O2, hst2, hgo2⟩; have hon := ((HST1.out.below (Below.refl wr.heap.size wr).drew).on hgo2).mono HP.out; have HON := hide hon; have HGN := hide (HStep.out _ _ _ _ (Below.refl wr.heap.size wr).drew hst2 hgo2); clear hst2 hgo2 hon c0 c1 c2; have c0 := (HON.out.cell (p := ⟨b', off + k * 5, none⟩) hlow).trans HAt.out.c0; have c1 := (HON.out.cell (p := ⟨b', off + k * 5 + 1, none⟩) hlow).trans HAt.out.c1; have c2 := (HON.out.cell (p := ⟨b', off + k * 5 + 2, none⟩) hlow).trans HAt.out.c2)))
        go_wp2
        refine ⟨⟨k + 1, by omega, by go_num, HGN.out⟩, ?_⟩
        simp [intOf]; omega
      · have e1 : ¬ (x.k : Int) % 8 < 2 := by omega
        by_cases h3 : x.k % 8 = 2
        · have e2 : ((((x.k : Int) % 8) == 2) : Bool) = true := by simp; omega
          have HP1 := hide (delete_key HST1.out x.da x.db.length x.dc x.db hok.data (by omega) (by omega) (by omega))
          clear hok hsz
          go_wp2_with (go_at_call 11; refine HP1.out.mono ?_; rintro e w8 ⟨rfl, O2, hst2, hgo2⟩; have HGN := hide (HStep.out _ _ _ _ (Below.refl wr.heap.size wr) hst2 hgo2); clear hst2 hgo2)
          refine ⟨⟨k + 1, by omega, by go_num, HGN.out⟩, ?_⟩
          simp [intOf]; omega
        · have e2 : ((((x.k : Int) % 8) == 2) : Bool) = false := by simp; omega
          clear hok hsz
          go_wp2
          refine ⟨⟨k + 1, by omega, by go_num, HGb.out.skip⟩, ?_⟩
          simp [intOf]; omega
    · obtain rfl : k = m := by omega
      have d1 : ¬ ((k : Int) < (k : Int)) := by omega
      have HBk := hide (back_st (m := mk) HST1.out (by omega) (by omega) (fun i l hi hl => by have := hle2 i l hi hl; omega))
      have HAt := hide hat
      have HCl2 := hide (Cl.go (B := 0) HCl.out HO.out hgo)
      clear hst hgo hat hle2 HGb
      go_wp2_with fail
      refine HBk.out.mono ?_
      rintro e w8 ⟨rfl, O2, es2, hat2, hst2, hgo2⟩
      rw [HAt.out] at hat2
      obtain rfl : es2 = es0 := by cases hat2; rfl
      have HST8 := hide hst2
      have HB8 := hide (HBw.out.trans ((HST1.out.on hgo2).mono HP.out))
      have HCl8 := hide (Cl.go (B := 0) HCl.out HO.out (HGo.out.trans hgo2))
      clear hat2 hst2 hgo2
      go_wp2_with fail
      refine (mark_any HST8.out).mono ?_
      rintro e w9 ⟨rfl, hw9⟩
      rw [hw9]
      clear hw9 w9
      go_wp2_with fail
      refine (len_any HST8.out).mono ?_
      rintro e w9 ⟨rfl, hw9⟩
      rw [hw9]
      clear hw9 w9
      go_wp2_with fail
      refine (changes_st HST8.out (by omega) HES.out).mono ?_
      rintro e w9 ⟨cs2, rfl, hey2, hcl2, hb9⟩
      have HB9 := hide (HB8.out.trans (hb9.mono HB8.out.size))
      have HST9 := hide (HST8.out.below hb9)
      have HS := hide (samec_yes _ _ _ _ _ cs2 cs w9 (hcl2.ens2 hey2) ((HCl8.out.below hb9).ens2 HEy.out) (hey2.trans HEy.out.symm) (by omega))
      clear hey2 hcl2 hb9
      go_wp2_with fail
      refine HS.out.mono ?_
      rintro e w10 ⟨rfl, hb10⟩
      have HB10 := hide (HB9.out.trans (hb10.mono HB9.out.size))
      have HST10 := hide (HST9.out.below hb10)
      clear hb10
      have hmw : IntKind.i64.wrap ((mk : Int) + 1) = (mk : Int) + 1 := by rw [IntKind.wrap_i64] <;> omega
      go_wp2_with fail
      refine (back_no HST10.out ((mk : Int) + 1) (.inr (by omega))).mono ?_
      rintro e w11 ⟨rfl, hw⟩
      rw [hw]
      clear hw w11
      go_wp2_with fail
      refine (back_no HST10.out (-1) (.inl (by omega))).mono ?_
      rintro e w11 ⟨rfl, hw⟩
      rw [hw]
      clear hw w11
      go_wp2
      go_ret
      exact ⟨rfl, HB10.out⟩
end Go.Proofs.Ytjccfbjdngjhfaa
