/- A list: the reach moves. -/
import Derived.Test.YtlahkeapfcfbbaaDoorLC
namespace Go.Proofs.YtlahkeapfcfbbaaDoor
open Go.RowKit Go.Maps
set_option linter.unusedVariables false
variable {w w' : World} {l pw pr : Nat} {vw vr vw' vr' : Value} {ms : List Nat} {R : Int} {A B A' B' : List Pg}
/-- how many wait. -/
def lenAt (w : World) (p : Nat) : Nat := match w.cell? ⟨p, 0, none⟩ with | some (.slice _ n _) => n | _ => 0
theorem Pl.lenAt {p : Nat} {b : Bool} {v : Value} {xs : List Pg} (h : Pl w p b v xs) : lenAt w p = xs.length := by
  obtain ⟨a, c, rfl, -⟩ := h.shape
  unfold Go.Proofs.YtlahkeapfcfbbaaDoor.lenAt
  rw [h.c0]
theorem field0 (x1 x2 : Int) (w : World) : (Instr.field 87 (.agg #[.int .u32 x1, .int .u64 x2]) 0).run Tryd.prog w = .ok (.int .u32 x1) w := by kernel_rfl
theorem field1 (x1 x2 : Int) (w : World) : (Instr.field 87 (.agg #[.int .u32 x1, .int .u64 x2]) 1).run Tryd.prog w = .ok (.int .u64 x2) w := by kernel_rfl
theorem Heap.mem0 {xs : List Pg} (h : 0 < xs.length) : pat xs 0 ∈ xs := pat_mem h
set_option maxHeartbeats 3200000 in
set_option maxRecDepth 1000000 in
theorem moveTo_any (h : Lm w l pw pr vw vr ms R A B) (hA : ∀ x ∈ A, x.2 ≤ R) (hB : ∀ x ∈ B, R < x.2) (hf : A.length + B.length + 1 ≤ 1000000) (G : Int) :
    Calls Tryd.prog 28 #[.pointer (some ⟨l, 0, none⟩), .int .u64 G] w fun e w' => e = .returned (.tuple #[]) ∧ ∃ vw' vr' A' B', Lm w' l pw pr vw' vr' ms G A' B' ∧ (A' ++ B').Perm (A ++ B) ∧ (∀ x ∈ A', x.2 ≤ G) ∧ (∀ x ∈ B', G < x.2) ∧ Go1 (OwL l pw pr vw vr) w (OwL l pw pr vw' vr') w' := by
  obtain ⟨-, c1, c2, c3⟩ := h.c
  have z1 := h.fz 256
  have HR := hide (h.struct 256 (.int .u64 G) h.mks (lcl_reach h.mks R pw pr G))
  have HG0 : Hid (Go1 (OwL l pw pr vw vr) w (OwL l pw pr vw vr) (w.setCell ⟨l, 256, none⟩ (.int .u64 G))) := ⟨HR.out.2.mono (fun k hk => .inl hk), fun k hk => .inl hk⟩
  have HA0 := hide hA
  have hfl := field1
  have HL := hide h
  clear h hA hB
  by_cases hG : G < R
  · have hd : decide (G < R) = true := decide_eq_true hG
    have HC := hide (layAgain_any HR.out.1 hf)
    go_enter Tryd.func28, Tryd.ntmps28
    go_wp2_with (go_at_call 64; refine HC.out.mono ?_; rintro e w1 ⟨rfl, vw1, vr1, A1, B1, h1, h2, h3, h4, h5⟩; have H1 := hide h1; have H2 := hide h2; have H3 := hide h3; have H4 := hide h4; have H5 := hide h5; clear h1 h2 h3 h4 h5)
    go_loopw [] (fun wr => ∃ (vw' vr' : Value) (A' B' : List Pg), Lm wr l pw pr vw' vr' ms G A' B' ∧ (A' ++ B').Perm (A ++ B) ∧ (∀ x ∈ A', x.2 ≤ G) ∧ Go1 (OwL l pw pr vw vr) w (OwL l pw pr vw' vr') wr) (fun wr => lenAt wr pw)
    case atStart => exact ⟨vw1, vr1, A1, B1, H1.out, H2.out, H3.out, HG0.out.trans H5.out⟩
    case round =>
      obtain ⟨vw', vr', A', B', hl, hpe, ha, hgo⟩ := hrel
      have HLr := hide hl
      have HPe := hide hpe
      have HA := hide ha
      have HGo := hide hgo
      obtain ⟨-, -, k2, k3⟩ := hl.c
      have hle := hl.wt.lenAt
      have hlen : A'.length + B'.length = A.length + B.length := by
        have := hpe.length_eq
        simp only [List.length_append] at this
        omega
      have HLe := hide hle
      have HPl := hide (plen_any hl.wt)
      clear hl hpe ha hgo hle
      by_cases h0 : B'.length = 0
      · rw [h0] at HPl
        go_wp2_with (go_at_call 29; refine HPl.out.mono ?_; rintro e w2 ⟨rfl, rfl⟩)
        go_end0
        refine ⟨rfl, vw', vr', A', B', HLr.out, HPe.out, HA.out, fun x hx => ?_, HGo.out⟩
        rw [List.eq_nil_of_length_eq_zero h0] at hx
        cases hx
      · have hq : (0 : Int) < (B'.length : Int) := by omega
        have hqd : decide ((0 : Int) < (B'.length : Int)) = true := decide_eq_true hq
        have HF := hide (first_any HLr.out.wt (by omega))
        unfold pgv at HF
        by_cases hle : (pat B' 0).2 ≤ G
        · have hld : decide ((pat B' 0).2 ≤ G) = true := decide_eq_true hle
          have HT := hide (fun W (hW : Below wr.heap.size wr W) => takeFirst_any (HLr.out.below hW).wt HLr.out.hw (by omega) (by omega))
          have HX := hide hle
          clear hle
          unfold pgv at HT
          generalize hP : pat B' 0 = P at *
          go_wp2_with (first
            | (go_at_call 29; refine HPl.out.mono ?_; rintro e w2 ⟨rfl, hw2⟩; rw [hw2]; clear hw2)
            | (go_at_call 65; refine HF.out.mono ?_; rintro e w3 ⟨rfl, hb3⟩; have HB3 := hide hb3; obtain ⟨-, -, m2, m3⟩ := (HLr.out.below hb3).c; clear hb3))
          go_region_with (first
            | (go_at_call 30; refine (HT.out _ HB3.out.drew).mono ?_; rintro e w4 ⟨rfl, v4, ys4, h1, h2, h3, h4⟩; obtain ⟨q1, q2⟩ := (HLr.out.below HB3.out.drew).wait h1 h3 h4; obtain ⟨-, -, j2, j3⟩ := q1.c; have HQ1 := hide q1; have HQ2 := hide q2; have H2 := hide h2; clear h1 h2 h3 h4 q1 q2)
            | (go_at_call 63; refine (put_any HQ1.out.rd HQ1.out.hr P (by omega)).mono ?_; rintro e w5 ⟨rfl, v5, ys5, h1, h2, h3, h4⟩; obtain ⟨q3, q4⟩ := HQ1.out.ready h1 h3 h4; have HQ3 := hide q3; have HQ4 := hide q4; have H5 := hide h2; clear h1 h2 h3 h4 q3 q4))
          all_goals
            go_wp2
            go_roundw
            case rel =>
              refine ⟨v4, v5, ys5, ys4, HQ3.out, ?_, ?_, (HGo.out.trans (Go1.of_below HB3.out.drew)).trans (HQ2.out.trans HQ4.out)⟩
              · refine List.Perm.trans ?_ HPe.out
                refine ((H5.out.append (List.Perm.refl ys4)).trans ?_).trans ((List.Perm.refl A').append H2.out.symm)
                exact List.perm_middle.symm
              · intro x hx
                rcases List.mem_cons.1 (H5.out.mem_iff.1 hx) with rfl | hm
                · exact HX.out
                · exact HA.out x hm
            case measure =>
              have e1 := HQ3.out.wt.lenAt
              have e2 := H2.out.length_eq
              have e3 := HLe.out
              simp only [List.length_cons] at e2
              omega
        · have hld : decide ((pat B' 0).2 ≤ G) = false := decide_eq_false hle
          have HX := hide (Int.not_le.1 hle)
          clear hle
          have HAll : Hid (∀ x ∈ B', G < x.2) := fun x hx => Int.lt_of_lt_of_le HX.out (HLr.out.hw.least_mem hx)
          generalize pat B' 0 = P at *
          go_wp2_with (first
            | (go_at_call 29; refine HPl.out.mono ?_; rintro e w2 ⟨rfl, hw2⟩; rw [hw2]; clear hw2)
            | (go_at_call 65; refine HF.out.mono ?_; rintro e w3 ⟨rfl, hb3⟩; have HB3 := hide hb3; clear hb3))
          go_end0
          exact ⟨rfl, vw', vr', A', B', HLr.out.below HB3.out, HPe.out, HA.out, HAll.out, HGo.out.trans (Go1.of_below HB3.out)⟩
  · have hd : decide (G < R) = false := decide_eq_false hG
    have HRG := hide (Int.not_lt.1 hG)
    go_enter Tryd.func28, Tryd.ntmps28
    go_wp2
    go_loopw [] (fun wr => ∃ (vw' vr' : Value) (A' B' : List Pg), Lm wr l pw pr vw' vr' ms G A' B' ∧ (A' ++ B').Perm (A ++ B) ∧ (∀ x ∈ A', x.2 ≤ G) ∧ Go1 (OwL l pw pr vw vr) w (OwL l pw pr vw' vr') wr) (fun wr => lenAt wr pw)
    case atStart => exact ⟨vw, vr, A, B, HR.out.1, List.Perm.refl _, fun x hx => Int.le_trans (HA0.out x hx) HRG.out, HG0.out⟩
    case round =>
      obtain ⟨vw', vr', A', B', hl, hpe, ha, hgo⟩ := hrel
      have HLr := hide hl
      have HPe := hide hpe
      have HA := hide ha
      have HGo := hide hgo
      obtain ⟨-, -, k2, k3⟩ := hl.c
      have hle := hl.wt.lenAt
      have hlen : A'.length + B'.length = A.length + B.length := by
        have := hpe.length_eq
        simp only [List.length_append] at this
        omega
      have HLe := hide hle
      have HPl := hide (plen_any hl.wt)
      clear hl hpe ha hgo hle
      by_cases h0 : B'.length = 0
      · rw [h0] at HPl
        go_wp2_with (go_at_call 29; refine HPl.out.mono ?_; rintro e w2 ⟨rfl, rfl⟩)
        go_end0
        refine ⟨rfl, vw', vr', A', B', HLr.out, HPe.out, HA.out, fun x hx => ?_, HGo.out⟩
        rw [List.eq_nil_of_length_eq_zero h0] at hx
        cases hx
      · have hq : (0 : Int) < (B'.length : Int) := by omega
        have hqd : decide ((0 : Int) < (B'.length : Int)) = true := decide_eq_true hq
        have HF := hide (first_any HLr.out.wt (by omega))
        unfold pgv at HF
        by_cases hle : (pat B' 0).2 ≤ G
        · have hld : decide ((pat B' 0).2 ≤ G) = true := decide_eq_true hle
          have HT := hide (fun W (hW : Below wr.heap.size wr W) => takeFirst_any (HLr.out.below hW).wt HLr.out.hw (by omega) (by omega))
          have HX := hide hle
          clear hle
          unfold pgv at HT
          generalize hP : pat B' 0 = P at *
          go_wp2_with (first
            | (go_at_call 29; refine HPl.out.mono ?_; rintro e w2 ⟨rfl, hw2⟩; rw [hw2]; clear hw2)
            | (go_at_call 65; refine HF.out.mono ?_; rintro e w3 ⟨rfl, hb3⟩; have HB3 := hide hb3; obtain ⟨-, -, m2, m3⟩ := (HLr.out.below hb3).c; clear hb3))
          go_region_with (first
            | (go_at_call 30; refine (HT.out _ HB3.out.drew).mono ?_; rintro e w4 ⟨rfl, v4, ys4, h1, h2, h3, h4⟩; obtain ⟨q1, q2⟩ := (HLr.out.below HB3.out.drew).wait h1 h3 h4; obtain ⟨-, -, j2, j3⟩ := q1.c; have HQ1 := hide q1; have HQ2 := hide q2; have H2 := hide h2; clear h1 h2 h3 h4 q1 q2)
            | (go_at_call 63; refine (put_any HQ1.out.rd HQ1.out.hr P (by omega)).mono ?_; rintro e w5 ⟨rfl, v5, ys5, h1, h2, h3, h4⟩; obtain ⟨q3, q4⟩ := HQ1.out.ready h1 h3 h4; have HQ3 := hide q3; have HQ4 := hide q4; have H5 := hide h2; clear h1 h2 h3 h4 q3 q4))
          all_goals
            go_wp2
            go_roundw
            case rel =>
              refine ⟨v4, v5, ys5, ys4, HQ3.out, ?_, ?_, (HGo.out.trans (Go1.of_below HB3.out.drew)).trans (HQ2.out.trans HQ4.out)⟩
              · refine List.Perm.trans ?_ HPe.out
                refine ((H5.out.append (List.Perm.refl ys4)).trans ?_).trans ((List.Perm.refl A').append H2.out.symm)
                exact List.perm_middle.symm
              · intro x hx
                rcases List.mem_cons.1 (H5.out.mem_iff.1 hx) with rfl | hm
                · exact HX.out
                · exact HA.out x hm
            case measure =>
              have e1 := HQ3.out.wt.lenAt
              have e2 := H2.out.length_eq
              have e3 := HLe.out
              simp only [List.length_cons] at e2
              omega
        · have hld : decide ((pat B' 0).2 ≤ G) = false := decide_eq_false hle
          have HX := hide (Int.not_le.1 hle)
          clear hle
          have HAll : Hid (∀ x ∈ B', G < x.2) := fun x hx => Int.lt_of_lt_of_le HX.out (HLr.out.hw.least_mem hx)
          generalize pat B' 0 = P at *
          go_wp2_with (first
            | (go_at_call 29; refine HPl.out.mono ?_; rintro e w2 ⟨rfl, hw2⟩; rw [hw2]; clear hw2)
            | (go_at_call 65; refine HF.out.mono ?_; rintro e w3 ⟨rfl, hb3⟩; have HB3 := hide hb3; clear hb3))
          go_end0
          exact ⟨rfl, vw', vr', A', B', HLr.out.below HB3.out, HPe.out, HA.out, HAll.out, HGo.out.trans (Go1.of_below HB3.out)⟩
end Go.Proofs.YtlahkeapfcfbbaaDoor
