/- The Go function CrcPieces answers true for every list of bytes' lists that is handed in, and leaves it as it was: bytes summed in pieces come to the sum of the whole. No condition. -/
import Derived.Test.YtahimokgidnbcaaF
import Derived.Laws.AppendOwnNone
import Derived.Deep.Matrix
import Derived.SizedLaws
namespace Go.Proofs.Ytahimokgidnbcaa.Pieces
open Go.ChangeShapes Go.WideShapes Go.ChangeAt Go.RowKit Go.Deep
set_option linter.unusedVariables false

/-- an append from whatever source to a slice of the call's own. -/
theorem wpList_append_from {w : World} {ops : Array Oper} {rest : List Oper} {o : Oper} {a : Act} {Q : Exit → Act → World → Prop} (hgd : o.guard = none) (s x : Operand)
    (ho : o.op = .call { callee := .builtin .append, args := #[s, x], argTypes := #[23, 23] }) (base : Nat) (v : Value) (n : Nat) (xs : List Value) (hs : a.eval s = v) (hown : w.ownsRow base 5 1 v n xs)
    (ao : Option Addr) (m c : Nat) (news : List Value) (hx : a.eval x = .slice ao m c) (hn : ao = none → m = 0 ∧ c = 0) (hl : news.length = m) (hnews : ∀ ad, ao = some ad → ∀ j u, news[j]? = some u → w.cell? (ad.add j) = some u) (h1 : ∀ u ∈ news, u.oneCell' = true)
    (hb : n + m ≤ 100000) (hbase : base ≤ w.heap.size)
    (h : ∀ v' w', w'.ownsRow base 5 1 v' (n + m) (xs ++ news) → w.grownBy w' v.ownBlock → wpList Try.prog ops Q rest (a.put o.dst v') w') : wpList Try.prog ops Q (o :: rest) a w := by
  obtain ⟨i0, hi, hz0, hz1, hz2⟩ := info_parts Try.info5
  cases ao with
  | some ad => exact wpList_append_own w hgd s x 23 ho base 5 i0 (.int .u8 0) 1 1 Try.underlying23 hi hz0 hz1 hz2 rfl (by omega) v n xs hs hown ad m c news hx (by omega) (hnews ad rfl) h1 (by unfold maxLen; omega) (by omega) hbase fun v' w' p q _ => h v' w' p q
  | none =>
    obtain ⟨rfl, rfl⟩ := hn rfl
    have e : news = [] := List.eq_nil_of_length_eq_zero hl
    subst e
    exact wpList_append_own_none hgd s x 23 ho base 5 i0 1 Try.underlying23 hi v n xs hs hown hx (h v w (by simpa using hown) (World.grownBy.refl _ _))

/-- the first k pieces, one behind the other. -/
def cat (P : Nat → List Int) : Nat → List Int
  | 0 => []
  | k + 1 => cat P k ++ P k
theorem cat_byts (P : Nat → List Int) (len k : Nat) (hk : k ≤ len) (h : ∀ r, r < len → Byts (P r)) : Byts (cat P k) := by
  induction k with
  | zero => intro c hc; simp [cat] at hc
  | succ k ih =>
    intro c hc
    rw [cat] at hc
    rcases List.mem_append.1 hc with h1 | h1
    · exact ih (by omega) c h1
    · exact h k (by omega) c h1
theorem cat_mono (P : Nat → List Int) (k j : Nat) (h : k ≤ j) : (cat P k).length ≤ (cat P j).length := by
  induction j with
  | zero => have : k = 0 := by omega
            subst this; exact Nat.le_refl _
  | succ j ih =>
    by_cases e : k = j + 1
    · subst e; exact Nat.le_refl _
    · have := ih (by omega)
      rw [cat, List.length_append]; omega

/-- what the walk is told of the list that came in. -/
structure Came (w : World) (a : Option Addr) (len : Nat) (A : Nat → Option Addr) (L C : Nat → Nat) (P : Nat → List Int) : Prop where
  at_ : 0 < len → ∃ b off, a = some ⟨b, off, none⟩ ∧ b < w.heap.size ∧ ∀ r, r < len → w.cell? ⟨b, off + r, none⟩ = some (.slice (A r) (L r) (C r))
  row : ∀ r, r < len → Row w (A r) (P r)
  byts : ∀ r, r < len → Byts (P r)
  long : ∀ r, r < len → (P r).length = L r
  small : ∀ r, r < len → L r ≤ 140737488355328
  bare : ∀ r, r < len → A r = none → L r = 0 ∧ C r = 0

theorem below_cell {w w' : World} {b o : Nat} {v : Value} (h : Below w.heap.size w w') (hb : b < w.heap.size) (hc : w.cell? ⟨b, o, none⟩ = some v) : w'.cell? ⟨b, o, none⟩ = some v := (h.cell (p := ⟨b, o, none⟩) hb).trans hc

theorem owns_below {w w' : World} {base n : Nat} {v : Value} {xs : List Value} (h : w.ownsRow base 5 1 v n xs) (hb : Below w.heap.size w w') : w'.ownsRow base 5 1 v n xs :=
  h.kept (row := none) ⟨hb.os, hb.tape, hb.output, hb.size, fun k hk _ => hb.block k hk⟩ (by cases v.ownBlock <;> simp)

set_option maxHeartbeats 1600000 in
theorem walk_body (a : Option Addr) (len cap : Nat) (A : Nat → Option Addr) (L C : Nat → Nat) (P : Nat → List Int) (w : World) (hlen : len ≤ 140737488355328) (came : Came w a len A L C P) :
    Calls Try.prog 4 #[.slice a len cap] w fun e w' => e = .returned (.bool true) ∧ Below w.heap.size w w' := by
  have H := hide came
  clear came
  go_enter Try.func4, Try.ntmps4
  go_wp2
  go_loop [3, 4] (fun n i => ∃ k : Nat, k ≤ len ∧ i = .int .i64 k ∧ n = .int .i64 ((len + (cat P k).length : Nat) : Int) ∧ len + (cat P k).length ≤ 140737488455328) (fun _ i => len - (intOf i).toNat)
  case atStart => exact ⟨0, Nat.zero_le _, rfl, by simp [cat], by simp [cat]; omega⟩
  case round =>
    obtain ⟨k, hk, rfl, rfl, hs⟩ := hrel
    have HN : ∀ j, (cat P (j + 1)).length = (cat P j).length + (P j).length := fun j => by rw [cat, List.length_append]
    have HC := hide HN
    clear HN
    generalize hN : len + (cat P k).length = N at *
    have HN := hide hN
    clear hN
    by_cases hlt : k < len
    · by_cases hbd : N ≤ 100000
      · obtain ⟨b, off, rfl, hb, hc⟩ := H.out.at_ (by omega)
        have g := hc k hlt
        have hL := H.out.small k hlt
        have HL := hide (H.out.long k hlt)
        generalize L k = m at *
        generalize C k = c at *
        generalize A k = ak at *
        clear hc
        go_wp2
        go_round
        case rel => exact ⟨k + 1, by omega, by go_num, by have h1 := HC.out k; have h2 := HN.out; have h3 := HL.out; rw [h1, h3]; rw [← h2]; go_num, by have h1 := HC.out k; have h2 := HN.out; have h3 := HL.out; omega⟩
        case measure => simp [intOf]; omega
      · go_wp2
        go_ret
        exact ⟨rfl, Below.refl _ _⟩
    · have hke : len = k := by omega
      subst hke
      by_cases hbd : N ≤ 100000
      · have hcl : (cat P len).length ≤ 100000 := by have := HN.out; omega
        clear HC hs hk hlt
        go_wp2_with fail
        refine (sum_any none 0 0 [] _ rfl (by omega) (.inl rfl) (by intro c hc; simp at hc)).mono ?_
        rintro e w1 ⟨rfl, hb1⟩
        rw [known3]
        have HB1 := hide hb1
        clear hb1
        go_wp2
        go_loopw [5, 6, 7] (fun v s i wr => ∃ k : Nat, k ≤ len ∧ i = .int .i64 k ∧ s = .int .u32 ((Crc.more 0 (cat P k) : Nat) : Int) ∧ wr.ownsRow w.heap.size 5 1 v (cat P k).length ((cat P k).map (Value.int .u8)) ∧ Below w.heap.size w wr) (fun _ _ i _ => len - (intOf i).toNat)
        case atStart => exact ⟨0, Nat.zero_le _, rfl, by rw [cat, known3]; rfl, World.ownsRow_nil _ _ _ _, HB1.out⟩
        case round =>
          obtain ⟨k, hk, rfl, rfl, hown, hbel⟩ := hrel
          have HO := hide hown
          have HB := hide hbel
          clear hown hbel
          have hml := Crc.more_lt 0 (cat P k) (by omega) (cat_byts P len k hk H.out.byts)
          by_cases hlt : k < len
          · obtain ⟨b, off, rfl, hb, hc⟩ := H.out.at_ (by omega)
            have g := below_cell HB.out hb (hc k hlt)
            have HR := hide (H.out.row k hlt)
            have HY := hide (H.out.byts k hlt)
            have HL := hide (H.out.long k hlt)
            have HA := hide (H.out.bare k hlt)
            have HM := hide (Crc.more_more 0 (cat P k) (P k))
            have HC : Hid (cat P (k + 1) = cat P k ++ P k) := by rw [Hid, cat]
            have hsz : (cat P k).length + L k ≤ 100000 := by
              have h1 := cat_mono P (k + 1) len (by omega)
              have h2 := HL.out
              rw [cat, List.length_append] at h1
              omega
            have HCell := hide (hc k hlt)
            have hz := H.out.small k hlt
            generalize P k = pk at *
            generalize L k = m at *
            generalize C k = c at *
            generalize A k = ak at *
            generalize hN2 : (cat P k).length = n2 at *
            have HN2 := hide hN2
            generalize hX : Crc.more 0 (cat P k) = X at *
            have HX := hide hX
            clear hc hN2 hX
            go_wp2_with (at_builtin; refine wpList_append_from (by rfl) (.tmp 36) (.tmp 40) (by rfl) w.heap.size u5 n2 _ (by rfl) HO.out ak m c (pk.map (Value.int .u8)) (by rfl) HA.out (by rw [List.length_map]; exact HL.out) (HR.out.below HB.out).news (ints_oneCell _ _) hsz HB.out.size ?_; intro v2 w2 hown2 hgrow2; have hb2 := HB.out.grown hgrow2 HB.out.size (fun q hq => (HO.out.lt q hq).1); have g2 := below_cell hb2 hb HCell.out)
            refine (more_any X hml ak m c pk _ HL.out (by omega) (HR.out.below hb2) HY.out).mono ?_
            rintro e w3 ⟨rfl, hb3⟩
            have HO3 := hide (owns_below hown2 hb3)
            have HB3 := hide (hb2.trans (hb3.mono hb2.size))
            clear hown2 hgrow2 hb2 hb3 g g2
            go_wp2
            go_roundw
            case rel =>
              refine ⟨k + 1, by omega, by go_num, ?_, ?_, HB3.out⟩
              · rw [HC.out, ← HM.out]
              · have h := HO3.out
                rw [HC.out, List.map_append, List.length_append, HN2.out, HL.out]
                exact h
            case measure => simp [intOf]; omega
          · have hke : len = k := by omega
            subst hke
            have hv := HO.out.2
            have HF : Hid (∃ (ao : Option Addr) (n c : Nat), u5 = .slice ao n c ∧ (cat P len).length = n ∧ Row wr ao (cat P len)) := by
              rcases hv with ⟨rfl, h0⟩ | ⟨g, cp, cur, rfl, _⟩
              · exact ⟨none, 0, 0, rfl, h0, .inl (List.eq_nil_of_length_eq_zero h0)⟩
              · exact ⟨_, _, _, rfl, rfl, row_of_owns HO.out⟩
            clear hv
            obtain ⟨ao, n2, c2, rfl, hn2, hr2⟩ := HF.out
            have HN2 := hide hn2
            have HR2 := hide hr2
            clear hn2 hr2 HO HF
            go_wp2_with fail
            refine (known_any _).mono ?_
            rintro e w2 ⟨rfl, hb2⟩
            have HR3 := hide (HR2.out.below hb2)
            have HB2 := hide (HB.out.trans (hb2.mono HB.out.size))
            clear hb2
            go_wp2_with fail
            refine (sum_any ao n2 c2 (cat P len) _ HN2.out (by have := HN2.out; omega) HR3.out (cat_byts P len len (Nat.le_refl _) H.out.byts)).mono ?_
            rintro e w3 ⟨rfl, hb3⟩
            go_wp2
            go_ret
            exact ⟨rfl, HB2.out.trans (hb3.mono HB2.out.size)⟩
      · go_wp2
        go_ret
        exact ⟨rfl, Below.refl _ _⟩

theorem bytes23 : Try.prog.bytesOf 23 = 24 := by kernel_rfl
theorem bytes5 : Try.prog.bytesOf 5 = 1 := by kernel_rfl
theorem cells23 : Try.prog.cellsOf 23 = 1 := by kernel_rfl
theorem cells5 : Try.prog.cellsOf 5 = 1 := by kernel_rfl
theorem weights_mem {H : Type} {Q : Program} {e : TypeId} {d : DataW H} {l : List (DataW H)} (h : d ∈ l) {n : Nat} (hn : n ∈ d.weights Q e) : n ∈ DataW.weightsAll Q e l := by
  induction l with
  | nil => simp at h
  | cons x t ih =>
    rw [DataW.weightsAll]
    rcases List.mem_cons.1 h with rfl | h
    · exact List.mem_append.2 (.inl hn)
    · exact List.mem_append.2 (.inr (ih h))
theorem inner_sized {H : Type} {elems spare : List (DataW H)} {ts : List TypeId} {gs : List (DataW H)} (h : (DataW.weightsEach Try.prog (30 :: ts) (.slice elems spare :: gs)).all (· ≤ reachBytes) = true) :
    elems.length ≤ reachBytes ∧ ∀ e1 s1, DataW.slice e1 s1 ∈ elems → e1.length + s1.length ≤ reachBytes := by
  rw [DataW.weightsEach, DataW.weights, Try.underlying30] at h
  simp only [] at h
  rw [bytes23] at h
  have hall := List.all_eq_true.1 h
  constructor
  · have := of_decide_eq_true (hall _ (List.mem_append.2 (.inl (List.mem_cons_self ..))))
    omega
  · intro e1 s1 hm
    have hw : (e1.length + s1.length) * 1 ∈ (DataW.slice e1 s1 : DataW H).weights Try.prog 23 := by
      rw [DataW.weights, Try.underlying23]
      simp only []
      rw [bytes5]
      exact List.mem_cons_self ..
    have := of_decide_eq_true (hall _ (List.mem_append.2 (.inl (List.mem_cons_of_mem _ (List.mem_append.2 (.inl (weights_mem hm hw)))))))
    omega

set_option maxRecDepth 100000 in
theorem lifted (os : Os) (started : os.Started) (H : Type) (enc : TypeId × Value → H) :
    ReturnsInHanded {} Try.checked os 4 .any (Rows.crcPiecesSpec.pre6 enc Try.prog Try.f4 Rows.crcPiecesRow.domain false) (Rows.crcPiecesSpec.post enc Try.prog Try.f4 false true false false) := by
  refine returnsInHanded_of_change_sized (C := Try.checked) own started (by kernel_rfl) Try.func4
    (ChangeSpec.witness6 (enc := enc) (C := Try.checked) false ⟨#[], #[.slice none 0 0], []⟩ 8 (by kernel_rfl) (by kernel_rfl) (by kernel_rfl) (by kernel_rfl)) ?_
  intro W base args ds gs before hval0 hW hcnd hsz0 _
  have hval : ∀ (j : Nat) t v, Try.f4.params[j]? = some t → args[j]? = some v → Value.okWide Try.prog W .any base t v := hval0
  have hsz : (DataW.weightsEach Try.prog (Try.f4.params.toList ++ Rows.crcPiecesSpec.plain.varTypes Try.prog) (ds ++ gs)).all (· ≤ reachBytes) = true := hsz0
  have hW' := hW
  obtain ⟨p, q, hA0, hV, rfl, hfz, hnd⟩ := hW
  have hA : DataW.TrodAll enc Try.prog W 0 (fun _ => true) true Try.f4.params.toList args.toList ds p := hA0
  rw [Try.params4] at hA hval hsz
  obtain ⟨v0, vs0, d0, ds0, p0, q0, hargs, rfl, rfl, h0, r0⟩ := trodAll_cons hA
  obtain ⟨rfl, rfl, rfl⟩ := trodAll_nil r0
  obtain rfl : args = #[v0] := by cases args; simp_all
  obtain ⟨rfl, rfl⟩ := trodVars_none hV
  obtain ⟨a0, len0, cap0, rfl⟩ := okWide_slice Try.underlying30 (hval 0 30 v0 rfl rfl)
  have k0 := h0
  have lt0 : ∀ x ∈ p0, x.block < W.heap.size := by obtain ⟨m, hm⟩ := k0; exact DataW.trod_lt m _ _ _ hm
  obtain ⟨A, L, C, P, hl47, came⟩ : ∃ A L C P, len0 ≤ 140737488355328 ∧ Came W a0 len0 A L C P := by
    obtain ⟨fuel, hf⟩ := h0
    rcases open_int_rows Try.underlying30 Try.underlying23 Try.underlying5 cells23 cells5 hf with ⟨hcs, _⟩ | ⟨x, l, c, A, L, C, Z, hcs, _, hl, hm, hx, hrows⟩
    · simp [Value.cells] at hcs
      obtain ⟨rfl, rfl, rfl⟩ := hcs
      exact ⟨fun _ => none, fun _ => 0, fun _ => 0, fun _ => [], by omega, ⟨fun h => absurd h (by omega), fun r h => absurd h (by omega), fun r h => absurd h (by omega), fun r h => absurd h (by omega), fun r h => absurd h (by omega), fun r h => absurd h (by omega)⟩⟩
    · simp [Value.cells] at hcs
      obtain ⟨rfl, rfl, rfl⟩ := hcs
      have hd : d0 = .slice ((List.range len0).map fun r => intRow .u8 (A r) (L r) (Z r)) ((List.range (cap0 - len0)).map fun j => intRow .u8 (A (len0 + j)) (L (len0 + j)) (Z (len0 + j))) := congrArg Prod.fst hx
      subst hd
      have hin := inner_sized hsz
      have hrow : ∀ r, r < len0 → IsRow .u8 W (A r) (L r) (C r) (Z r) := by
        intro r hr
        obtain ⟨h1, h2, h3, h4, h5, h6, h7⟩ := hrows r (by omega)
        cases e : A r with
        | none =>
          have := h6 e
          exact .inl ⟨rfl, by omega, by omega, List.eq_nil_of_length_eq_zero (by omega)⟩
        | some x1 => exact .inr ⟨x1, rfl, h2, h3, h4, fun i hi => (h7 x1 e).2 i (by omega), h5⟩
      refine ⟨A, L, C, fun r => (Z r).take (L r), ?_, ⟨?_, ?_, ?_, ?_, ?_, ?_⟩⟩
      · have := hin.1
        rw [List.length_map, List.length_range] at this
        unfold reachBytes at this
        omega
      · intro h0
        obtain ⟨b, off, spot⟩ := x
        have hc := (hrows 0 (by omega)).1
        have hspot : spot = none := by simpa [Addr.add] using World.cell?_spot hc
        subst hspot
        refine ⟨b, off, rfl, ?_, fun r hr => ?_⟩
        · have := World.block_lt_of_cell? W _ hc
          rw [Addr.add_lit] at this
          exact this
        · have := (hrows r (by omega)).1
          rw [Addr.add_lit] at this
          exact this
      · intro r hr; exact (isrow_row (hrow r hr)).1
      · intro r hr; exact (isrow_row (hrow r hr)).2.1
      · intro r hr; exact (isrow_row (hrow r hr)).2.2.1
      · intro r hr
        obtain ⟨h1, h2, h3, h4, h5, h6, h7⟩ := hrows r (by omega)
        cases e : A r with
        | none => have := h6 e; omega
        | some x1 =>
          have := hin.2 _ _ (List.mem_map.2 ⟨r, List.mem_range.2 hr, by rw [e]; rfl⟩)
          simp only [lits, List.length_map, List.length_take, List.length_drop] at this
          unfold reachBytes at this
          omega
      · intro r hr; exact (isrow_row (hrow r hr)).2.2.2.2.2
  clear hA0 hval0
  refine (walk_body a0 len0 cap0 A L C P W hl47 came).mono fun e W' ⟨he, bel⟩ => ?_
  subst he
  exact ⟨_, rfl, _, _, _, [], _, [], hW', trodAll_mk1 (shut_bool Try.underlying4 _), (trodAll_cons_mk (Below.trod laidOut (by kernel_rfl) (of_decide_eq_true (by kernel_rfl)) k0 bel lt0) trodAll_mk0), rfl, bel.frame _, fun h => by cases h⟩

theorem over : Rows.crcPiecesRow.holds Try.pinned (OpenSpec.ofChange Rows.crcPiecesSpec) :=
  OpenClaim.holds_of_wide 4 Try.f4 rfl rfl rfl rfl rfl rfl rfl ⟨rfl, rfl, rfl, rfl, rfl⟩ rfl rfl rfl rfl rfl (by kernel_rfl) Try.func4 (by kernel_rfl)
    (of_decide_eq_true (by kernel_rfl)) (by unfold Func.isWrapper; first | (rw [if_pos (by decide +kernel)]; kernel_rfl) | (rw [if_neg (by decide +kernel)]; exact ⟨rfl, rfl⟩))
    (fun os started H enc _ => lifted os started H enc)

end Go.Proofs.Ytahimokgidnbcaa.Pieces
namespace Go.Proofs.Ytahimokgidnbcaa
theorem crcPieces_holds : Rows.CrcPiecesSaid := Pieces.over
#print axioms crcPieces_holds
end Go.Proofs.Ytahimokgidnbcaa
