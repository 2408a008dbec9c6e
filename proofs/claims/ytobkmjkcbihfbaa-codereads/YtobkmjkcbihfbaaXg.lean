/- Contract of a call of a reader by its kind, beside the document's. -/
import Derived.Test.YtobkmjkcbihfbaaXf
import Derived.Test.YtobkmjkcbihfbaaS
import Derived.Deep.RegionHeld3
namespace Go.Proofs.Ytobkmjkcbihfbaa
open Go.RowKit Go.Deep
set_option linter.unusedVariables false

theorem results_tmp4 {fn : Func} {t u v x : Tmp} (h : fn.results = #[.tmp t, .tmp u, .tmp v, .tmp x]) (tmps : Array Value) (P : Program) (w : World) :
    (results fn tmps).run P w = .ok (.tuple #[tmps.getD t undef, tmps.getD u undef, tmps.getD v undef, tmps.getD x undef]) w := by
  simp [results, h]
theorem bk_size (ls : List Int) : (bk ls).size = ls.length := by unfold bk; show (Array.size _) = _; simp
theorem text_new (ls : List Int) (hb : Byts ls) (w : World) : ∃ c' W', (convert 9 27 (.string (bk ls))).run Try.prog w = .ok (.slice (some ⟨w.heap.size, 0, none⟩) ls.length c') W' ∧ Row W' (some ⟨w.heap.size, 0, none⟩) ls ∧ Below w.heap.size w W' := by
  have h := run_bytes_of_string (P := Try.prog) w 9 27 5 (bk ls) Try.underlying9 Try.underlying27 Try.underlying5
  rw [bk_size] at h
  refine ⟨_, _, h, ?_, ((Below.refl w.heap.size w).drew).alloc (Nat.le_refl _) _⟩
  refine .inr ⟨w.heap.size, 0, rfl, by simp, fun j hj => ?_⟩
  have hj2 : j < (bk ls).data.size := by have := bk_size ls; show j < (bk ls).size; omega
  have e := bytesRow_at (bk ls) (grownCap w ls.length 0 5) j hj2
  rw [Nat.zero_add]
  have e2 : ((bk ls).data[j].toNat : Int) = ls.getD j 0 := by
    have h1 : (sb (bk ls)).getD j 0 = ls.getD j 0 := by rw [sb_bk ls hb]
    rw [← h1]
    unfold sb
    simp
    rw [Array.getElem?_eq_getElem hj2]
    rfl
  rw [e2] at e
  have h3 : (w.drew.alloc (.cells (bytesRow (bk ls) (grownCap w ls.length 0 5)) 5 ((bytesRow (bk ls) (grownCap w ls.length 0 5)).size, (bytesRow (bk ls) (grownCap w ls.length 0 5)).size + 1))).heap[w.heap.size]? = some (.cells (bytesRow (bk ls) (grownCap w ls.length 0 5)) 5 ((bytesRow (bk ls) (grownCap w ls.length 0 5)).size, (bytesRow (bk ls) (grownCap w ls.length 0 5)).size + 1)) := heap_alloc_new w.drew _
  simp only [World.cell?, h3]
  exact e
theorem jn_small (n : Nat) (ys : List Int) (hb : Byts ys) (hl : ys.length ≤ n) (hn : n ≤ 8) : jn ys < 256 ^ n := by
  induction n generalizing ys with
  | zero =>
    have : ys = [] := List.eq_nil_of_length_eq_zero (by omega)
    subst this; simp [jn]
  | succ n ih =>
    rcases List.eq_nil_or_concat ys with rfl | ⟨l, c, rfl⟩
    · simp [jn]; exact Nat.pow_pos (by omega)
    · rw [List.concat_eq_append] at hb hl ⊢
      rw [jn_snoc]
      have h1 := ih l (fun x hx => hb x (by simp [hx])) (by simp at hl; omega) (by omega)
      have h2 := hb c (by simp)
      have h3 : jn l * 256 + c.toNat < 256 ^ (n + 1) := by rw [Nat.pow_succ]; omega
      exact Nat.lt_of_le_of_lt (Nat.mod_le _ _) h3
theorem tk_len2 (bs : List Int) (i e : Nat) (n : Nat) : (tk bs i e (n : Int)).2.2.length ≤ n := by
  rw [tk]
  split
  · simp
  · split
    · simp
    · split
      · simp
      · rw [List.length_take]; simp; omega
theorem Rd.of {w w' : World} {p : Nat} {a : Option Addr} {bs : List Int} {i e : Nat} {q : Nat} (h : Rd w p a bs i e) (hg : w.grownBy w' (some q)) (hpq : p ≠ q) (haq : ∀ ad, a = some ad → ad.block ≠ q) : Rd w' p a bs i e :=
  ⟨(hg.block p h.lt (fun e => hpq (by simpa using e))).trans h.blk, h.row.other hg haq, h.apart, h.bare, h.byts, h.le, h.small, h.err, fun ad had => Nat.lt_of_lt_of_le (h.inn ad had) hg.size⟩
theorem Xd.other {w w' : World} {p : Nat} {a : Option Addr} {c : Nat} {bs : List Int} {i e : Nat} {q : Nat} (h : Xd w p a c bs i e) (hg : w.grownBy w' (some q)) (hpq : p ≠ q) (haq : Off a bs q) : Xd w' p a c bs i e :=
  h.of (hg.block p h.lt (fun e => hpq (by simpa using e))) (h.row.off hg haq)
theorem box_stays' {w w' : World} {q b : Nat} {j : Nat} {v : Value} (hq : q ≠ b) (hc : w.cell? ⟨b, j, none⟩ = some v) (hg : w.grownBy w' (some q)) : w'.cell? ⟨b, j, none⟩ = some v :=
  hg.cell hc (fun e => hq (by simpa using e.symm))
theorem rt_byts (bs : List Int) (i e : Nat) (hb : Byts bs) : Byts (rt bs i e).1 := by
  rw [rt]
  split
  · intro c hc; simp at hc
  · exact tk_byts _ _ _ _ hb
theorem rt_len (bs : List Int) (i e : Nat) : (rt bs i e).1.length ≤ bs.length := by
  rw [rt]
  split
  · simp
  · exact tk_len _ _ _ _
/-- both readers side by side. -/
structure Both (w : World) (p : Nat) (a : Option Addr) (x : Nat) (ax : Option Addr) (cx : Nat) (bs : List Int) (i e : Nat) : Prop where
  rd : Rd w p a bs i e
  xd : Xd w x ax cx bs i e
  ne : p ≠ x
  far : ∀ ad, a = some ad → ad.block ≠ x
  fax : Off ax bs p
section
variable {w w1 w2 : World} {p x : Nat} {a ax : Option Addr} {cx : Nat} {bs : List Int} {i e i' e' : Nat}
theorem Both.on (h : Both w p a x ax cx bs i e) (hb : Below w.heap.size w w1) : Both w1 p a x ax cx bs i e := ⟨h.rd.below hb, h.xd.below hb, h.ne, h.far, h.fax⟩
/-- the reader reads, then the document's reader reads. -/
theorem Both.step (h : Both w p a x ax cx bs i e) (h1 : Rd w1 p a bs i' e') (g1 : w.grownBy w1 (some p)) : Xd w1 x ax cx bs i e ∧ ∀ w2, Xd w2 x ax cx bs i' e' → w1.grownBy w2 (some x) → Both w2 p a x ax cx bs i' e' ∧ Kp (fun k => k = p ∨ k = x) w w2 :=
  ⟨h.xd.other g1 (fun e => h.ne e.symm) h.fax, fun w2 hx g2 => ⟨⟨h1.of g2 h.ne h.far, hx, h.ne, h.far, h.fax⟩, (Kp.grown g1 (fun k hk => .inl (by cases hk; rfl))).trans (Kp.grown g2 (fun k hk => .inr (by cases hk; rfl)))⟩⟩
end
/-- what a call of both readers by its kind gives. -/
def Rds (w : World) (p : Nat) (a : Option Addr) (x : Nat) (ax : Option Addr) (cx : Nat) (bs : List Int) (kk : Nat) (r : Ending) (w' : World) : Prop :=
  ∃ (V : Int) (a1 : Option Addr) (m c1 : Nat) (a2 : Option Addr) (c2 : Nat) (ls : List Int) (i' e' : Nat), r = .returned (.tuple #[.int .u64 V, .int .u64 V, .slice a1 m c1, .slice a2 m c2]) ∧ ls.length = m ∧ m ≤ bs.length ∧ Row w' a1 ls ∧ Row w' a2 ls ∧
    (kk % 8 = 6 → c1 = m ∧ Own w' (.slice a1 m m) ls ∧ Own w' (.slice a2 m c2) ls ∧ ∀ ad, a1 = some ad → w.heap.size ≤ ad.block) ∧ Both w' p a x ax cx bs i' e' ∧ Kp (fun k => k = p ∨ k = x) w w'
theorem rds_nil {w w' : World} {p : Nat} {a : Option Addr} {x : Nat} {ax : Option Addr} {cx : Nat} {bs : List Int} {kk : Nat} {V : Int} {i' e' : Nat} (hk : kk % 8 ≠ 6) (h : Both w' p a x ax cx bs i' e' ∧ Kp (fun k => k = p ∨ k = x) w w') :
    Rds w p a x ax cx bs kk (.returned (.tuple #[.int .u64 V, .int .u64 V, .slice none 0 0, .slice none 0 0])) w' :=
  ⟨V, none, 0, 0, none, 0, [], i', e', rfl, rfl, Nat.zero_le _, .inl rfl, .inl rfl, fun h => absurd h hk, h.1, h.2⟩

set_option maxHeartbeats 3200000 in
set_option maxRecDepth 1000000 in
theorem reads_any (p : Nat) (a : Option Addr) (x : Nat) (ax : Option Addr) (cx : Nat) (bs : List Int) (i e : Nat) (kk v : Nat) (N : Int) (a2 : Option Addr) (n2 c2 : Nat) (w : World) (h : Both w p a x ax cx bs i e) (hk : kk < 256) (hN1 : -9223372036854775808 ≤ N) (hN2 : N ≤ 9223372036854775807) :
    Calls Try.prog 21 #[.pointer (some ⟨p, 0, none⟩), .pointer (some ⟨x, 0, none⟩), .agg #[.int .u8 (kk : Int), .int .u64 (v : Int), .int .i64 N, .slice a2 n2 c2]] w fun r w' => Rds w p a x ax cx bs kk r w' := by
  have H := hide h
  have HB1 := hide (below_alloc w (.cells #[.int .u8 (kk : Int), .int .u64 (v : Int), .int .i64 N, .slice a2 n2 c2] 57))
  have H1 := hide (h.on HB1.out)
  have HK1 : Hid (Kp (fun k => k = p ∨ k = x) w _) := Kp.of_below HB1.out
  have hmod : kk % 8 < 8 := Nat.mod_lt _ (by omega)
  have HBy := hide h.rd.byts
  clear h
  have HN6 : Hid (kk % 8 ≠ 6 → kk % 8 ≠ 6) := id
  generalize hj : kk % 8 = j at HN6 hmod
  have hj2 : (kk : Int) % 8 = (j : Int) := by omega
  have HJ := hide hj
  clear hj
  by_cases h0 : j = 0
  · subst h0
    have HM : Hid (jn (tk bs i e 1).2.2 % 256 = jn (tk bs i e 1).2.2) := by
      have h := jn_small 1 _ (tk_byts bs i e 1 HBy.out) (tk_len2 bs i e 1) (by omega)
      rw [show (256 : Nat) ^ 1 = 256 from rfl] at h
      exact Nat.mod_eq_of_lt h
    have HC := hide (ru8_any p a bs i e _ H1.out.rd)
    rw [HM.out] at HC
    have HJ6 : Hid (kk % 8 ≠ 6) := by rw [Hid, HJ.out]; decide
    go_enter Try.func21, Try.ntmps21
    go_wp2_with fail
    refine HC.out.mono ?_
    rintro r w1 ⟨rfl, hrd, hg⟩
    obtain ⟨hx1, hst⟩ := H1.out.step hrd hg
    have HX1 := hide hx1
    have HSt := hide hst
    have hjl := jn_lt (tk bs i e 1).2.2
    clear hrd hg hx1 hst HC
    go_wp2_with fail
    refine (xfixed_any x ax cx bs i e 1 _ HX1.out (by omega)).mono ?_
    rintro r w2 ⟨rfl, hx2, hg2⟩
    have HE := hide (HSt.out w2 hx2 hg2)
    clear hx2 hg2
    go_wp2
    (try simp only [Exit.inBlock, Exit.then]); refine bodyPost_ret (results_tmp4 rfl _ _ _) rfl ?_
    exact rds_nil HJ6.out ⟨HE.out.1, HK1.out.trans HE.out.2⟩
  by_cases h1 : j = 1
  · subst h1
    have HM : Hid (jn (tk bs i e 2).2.2 % 65536 = jn (tk bs i e 2).2.2) := by
      have h := jn_small 2 _ (tk_byts bs i e 2 HBy.out) (tk_len2 bs i e 2) (by omega)
      rw [show (256 : Nat) ^ 2 = 65536 from rfl] at h
      exact Nat.mod_eq_of_lt h
    have HC := hide (ru16_any p a bs i e _ H1.out.rd)
    rw [HM.out] at HC
    have HJ6 : Hid (kk % 8 ≠ 6) := by rw [Hid, HJ.out]; decide
    go_enter Try.func21, Try.ntmps21
    go_wp2_with fail
    refine HC.out.mono ?_
    rintro r w1 ⟨rfl, hrd, hg⟩
    obtain ⟨hx1, hst⟩ := H1.out.step hrd hg
    have HX1 := hide hx1
    have HSt := hide hst
    have hjl := jn_lt (tk bs i e 2).2.2
    clear hrd hg hx1 hst HC
    go_wp2_with fail
    refine (xfixed_any x ax cx bs i e 2 _ HX1.out (by omega)).mono ?_
    rintro r w2 ⟨rfl, hx2, hg2⟩
    have HE := hide (HSt.out w2 hx2 hg2)
    clear hx2 hg2
    go_wp2
    (try simp only [Exit.inBlock, Exit.then]); refine bodyPost_ret (results_tmp4 rfl _ _ _) rfl ?_
    exact rds_nil HJ6.out ⟨HE.out.1, HK1.out.trans HE.out.2⟩
  by_cases h2 : j = 2
  · subst h2
    have HM : Hid (jn (tk bs i e 4).2.2 % 4294967296 = jn (tk bs i e 4).2.2) := by
      have h := jn_small 4 _ (tk_byts bs i e 4 HBy.out) (tk_len2 bs i e 4) (by omega)
      rw [show (256 : Nat) ^ 4 = 4294967296 from rfl] at h
      exact Nat.mod_eq_of_lt h
    have HC := hide (ru32_any p a bs i e _ H1.out.rd)
    rw [HM.out] at HC
    have HJ6 : Hid (kk % 8 ≠ 6) := by rw [Hid, HJ.out]; decide
    go_enter Try.func21, Try.ntmps21
    go_wp2_with fail
    refine HC.out.mono ?_
    rintro r w1 ⟨rfl, hrd, hg⟩
    obtain ⟨hx1, hst⟩ := H1.out.step hrd hg
    have HX1 := hide hx1
    have HSt := hide hst
    have hjl := jn_lt (tk bs i e 4).2.2
    clear hrd hg hx1 hst HC
    go_wp2_with fail
    refine (xfixed_any x ax cx bs i e 4 _ HX1.out (by omega)).mono ?_
    rintro r w2 ⟨rfl, hx2, hg2⟩
    have HE := hide (HSt.out w2 hx2 hg2)
    clear hx2 hg2
    go_wp2
    (try simp only [Exit.inBlock, Exit.then]); refine bodyPost_ret (results_tmp4 rfl _ _ _) rfl ?_
    exact rds_nil HJ6.out ⟨HE.out.1, HK1.out.trans HE.out.2⟩
  by_cases h3 : j = 3
  · subst h3
    have HC := hide (ru64_any p a bs i e _ H1.out.rd)
    have HJ6 : Hid (kk % 8 ≠ 6) := by rw [Hid, HJ.out]; decide
    go_enter Try.func21, Try.ntmps21
    go_wp2_with fail
    refine HC.out.mono ?_
    rintro r w1 ⟨rfl, hrd, hg⟩
    obtain ⟨hx1, hst⟩ := H1.out.step hrd hg
    have HX1 := hide hx1
    have HSt := hide hst
    have hjl := jn_lt (tk bs i e 8).2.2
    clear hrd hg hx1 hst HC
    go_wp2_with fail
    refine (xfixed_any x ax cx bs i e 8 _ HX1.out (by omega)).mono ?_
    rintro r w2 ⟨rfl, hx2, hg2⟩
    have HE := hide (HSt.out w2 hx2 hg2)
    clear hx2 hg2
    go_wp2
    (try simp only [Exit.inBlock, Exit.then]); refine bodyPost_ret (results_tmp4 rfl _ _ _) rfl ?_
    exact rds_nil HJ6.out ⟨HE.out.1, HK1.out.trans HE.out.2⟩
  by_cases h4 : j = 4
  · subst h4
    have HC := hide (rvarint_any p a bs i e _ H1.out.rd)
    have HJ6 : Hid (kk % 8 ≠ 6) := by rw [Hid, HJ.out]; decide
    go_enter Try.func21, Try.ntmps21
    go_wp2_with fail
    refine HC.out.mono ?_
    rintro r w1 ⟨rfl, hrd, hg⟩
    obtain ⟨hx1, hst⟩ := H1.out.step hrd hg
    have HX1 := hide hx1
    have HSt := hide hst
    clear hrd hg hx1 hst HC
    go_wp2_with fail
    refine (xvar_any x ax cx bs i e _ HX1.out).mono ?_
    rintro r w2 ⟨rfl, hx2, hg2⟩
    have HE := hide (HSt.out w2 hx2 hg2)
    clear hx2 hg2
    go_wp2
    (try simp only [Exit.inBlock, Exit.then]); refine bodyPost_ret (results_tmp4 rfl _ _ _) rfl ?_
    exact rds_nil HJ6.out ⟨HE.out.1, HK1.out.trans HE.out.2⟩
  by_cases h5 : j = 5
  · subst h5
    have HC := hide (rsigned_any p a bs i e _ H1.out.rd)
    have HJ6 : Hid (kk % 8 ≠ 6) := by rw [Hid, HJ.out]; decide
    go_enter Try.func21, Try.ntmps21
    go_wp2_with fail
    refine HC.out.mono ?_
    rintro r w1 ⟨rfl, hrd, hg⟩
    obtain ⟨hx1, hst⟩ := H1.out.step hrd hg
    have HX1 := hide hx1
    have HSt := hide hst
    clear hrd hg hx1 hst HC
    go_wp2_with fail
    refine (xsigned_any x ax cx bs i e _ HX1.out).mono ?_
    rintro r w2 ⟨rfl, hx2, hg2⟩
    have HE := hide (HSt.out w2 hx2 hg2)
    clear hx2 hg2
    go_wp2
    (try simp only [Exit.inBlock, Exit.then]); refine bodyPost_ret (results_tmp4 rfl _ _ _) rfl ?_
    exact rds_nil HJ6.out ⟨HE.out.1, HK1.out.trans HE.out.2⟩
  by_cases h6 : j = 6
  · subst h6
    have HC := hide (rraw_any p a bs i e N _ (H1.out.on (Below.refl _ _).drew).rd hN1 hN2)
    have HX2 : Hid ((w.alloc (.cells #[.int .u8 (kk : Int), .int .u64 (v : Int), .int .i64 N, .slice a2 n2 c2] 57)).cell? ⟨w.heap.size, 2, none⟩ = some (.int .i64 N)) := by rw [Hid, World.cell?, heap_alloc_new]; rfl
    have HQ1 : Hid (p ≠ w.heap.size) := by have := H.out.rd.lt; rw [Hid]; omega
    have HQ2 : Hid (x ≠ w.heap.size) := by have := H.out.xd.lt; rw [Hid]; omega
    have HQ3 : Hid (w.heap.size ≤ (w.alloc (.cells #[.int .u8 (kk : Int), .int .u64 (v : Int), .int .i64 N, .slice a2 n2 c2] 57)).heap.size) := HB1.out.size
    go_enter Try.func21, Try.ntmps21
    go_wp2
    generalize w.alloc (.cells #[.int .u8 (kk : Int), .int .u64 (v : Int), .int .i64 N, .slice a2 n2 c2] 57) = X at *
    have HW : Hid (w.heap.size = w.heap.size) := rfl
    generalize hbx : w.heap.size = bx at HQ1 HQ2 HX2 HW ⊢
    have HBx := hide hbx
    clear hbx
    have y1 := HX2.out
    have HX1d : Hid (X.drew.cell? ⟨bx, 2, none⟩ = some (.int .i64 N)) := HX2.out
    have H1d := hide (H1.out.on (Below.refl _ _).drew)
    go_region_held3 (fun W => W.cell? ⟨bx, 2, none⟩ = some (.int .i64 N)) (assumption) ((first | (go_at_call 32; refine HC.out.mono ?_; intro r' w1 hh; obtain ⟨s1, m1, rfl, hlen, hown, hfr, hrd, hg⟩ := hh; have HSt := hide (H1d.out.step hrd hg); have y2 := box_stays' HQ1.out HX1d.out hg; have HO := hide hown; have HFr := hide hfr; have HLn := hide hlen; have HG1 := hide hg; have HXx := hide (xraw_any x ax cx bs i e N w1 HSt.out.1 hN1 hN2); have HYb := hide y2; clear hlen hown hfr hrd hg) | (go_at_call 73; refine HXx.out.mono ?_; intro r' w2 hh; obtain ⟨s2, m2, c4, rfl, hlen2, hbare2, hrow2, hown4, hx2, hg2⟩ := hh; have HO4 := hide hown4; have y3 := box_stays' HQ2.out HYb.out hg2; have HE := hide (HSt.out.2 w2 hx2 hg2); have HG2 := hide hg2; have HRw2 := hide hrow2; have HLn2 := hide hlen2; clear hlen2 hbare2 hrow2 hown4 hx2 hg2)))
    go_wp2
    (try simp only [Exit.inBlock, Exit.then]); refine bodyPost_ret (results_tmp4 rfl _ _ _) rfl ?_
    have hfr2 : ∀ ad, s1 = some ad → X.heap.size ≤ ad.block := by
      rintro ad rfl
      rcases HFr.out with h | ⟨g, h, hge⟩
      · cases h
      · cases h; exact hge
    have hown2 : Own w2 (.slice s1 m1 m1) (tk bs i e N).2.2 := by
      refine HO.out.of_block fun k hk => HG2.out.block k (HO.out.lt hk) (fun e2 => ?_)
      have hxk : k = x := by simpa using e2
      subst hxk
      cases s1 with
      | none => cases hk
      | some ad =>
        have h4 : ad.block = k := by simpa [Value.ownBlock] using hk
        have := hfr2 ad rfl
        have h5 := H1.out.xd.lt
        omega
    have hm : m2 = m1 := by rw [← HLn.out, ← HLn2.out]
    subst hm
    exact ⟨0, s1, _, _, s2, c4, _, _, _, rfl, HLn.out, by rw [← HLn.out]; exact tk_len _ _ _ _, hown2.row, HRw2.out, fun _ => ⟨rfl, hown2, HO4.out, fun ad h => Nat.le_trans HQ3.out (hfr2 ad h)⟩, HE.out.1, HK1.out.trans ((Kp.of_below (Below.refl _ _).drew).trans HE.out.2)⟩
  · have h7 : j = 7 := by omega
    subst h7
    have HC := hide (rtext_any p a bs i e _ H1.out.rd)
    have HJ6 : Hid (kk % 8 ≠ 6) := by rw [Hid, HJ.out]; decide
    have HLb := hide (rt_byts bs i e HBy.out)
    have HLl := hide (rt_len bs i e)
    go_enter Try.func21, Try.ntmps21
    go_wp2_with fail
    refine HC.out.mono ?_
    rintro r w1 ⟨rfl, hrd, hg⟩
    obtain ⟨hx1, hst⟩ := H1.out.step hrd hg
    obtain ⟨c5, W5, hcv, hrow5, hb5⟩ := text_new _ HLb.out w1
    have HX1 := hide (hx1.below hb5)
    have HSt := hide hst
    have HR5 := hide hrow5
    have HB5 := hide hb5
    have HQ : Hid (x < w1.heap.size) := hx1.lt
    clear hrd hg hx1 hst HC hrow5 hb5
    go_wp2_with fail
    refine (xtext_any x ax cx bs i e _ HX1.out).mono ?_
    rintro r w2 ⟨rfl, hx2, hg2⟩
    have HE := hide (HSt.out w2 hx2 (grown_trans (grown_below HB5.out) hg2))
    have HR6 := hide (HR5.out.other hg2 (by rintro ad h e2; cases h; have := HQ.out; simp at e2; omega))
    obtain ⟨c7, W7, hcv2, hrow7, hb7⟩ := text_new _ HLb.out w2
    have HR7 := hide (HR6.out.below hb7)
    have HR8 := hide hrow7
    have HB7 := hide hb7
    clear hx2 hg2 hrow7 hb7
    go_wp2
    (try simp only [Exit.inBlock, Exit.then]); refine bodyPost_ret (results_tmp4 rfl _ _ _) rfl ?_
    exact ⟨0, _, _, c5, _, c7, _, _, _, rfl, rfl, HLl.out, HR7.out, HR8.out, fun h => absurd h HJ6.out, HE.out.1.on HB7.out, HK1.out.trans (HE.out.2.trans (Kp.of_below HB7.out))⟩
end Go.Proofs.Ytobkmjkcbihfbaa
