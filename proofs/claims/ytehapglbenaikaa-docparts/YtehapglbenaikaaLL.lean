/- The reader of documents: whole, of any bytes. -/
import Derived.Test.YtehapglbenaikaaLK
namespace Go.Proofs.Ytehapglbenaikaa
open Go.RowKit
set_option linter.unusedVariables false

set_option maxHeartbeats 6400000 in
set_option maxRecDepth 1000000 in
theorem whole_gen (n₁ q n c : Nat) (a : Option Addr) (bs : List Int) (w : World) (hn1 : n₁ ≤ q) (hq : w.heap[q]? = some (.cells #[.pointer none, .slice none 0 0, .int .u64 0] 51 (0, 0))) (hl : bs.length = n) (hr : Row w a bs) (hby : Byts bs) (hbig : n ≤ 100000000) :
    Calls Try.prog 17 #[.pointer (some ⟨q, 0, none⟩), .slice a n c] w fun e w' => WhOut n₁ bs w e w' ∧ True := by
  have hql := lt_of_block hq
  have HB1 : Hid (Below w.heap.size w ((w.alloc (.cells #[.int .u8 0, .bool false, .int .i64 0, .string ⟨#[]⟩, .slice none 0 0, .slice none 0 0, .slice none 0 0] 27)).alloc (.cells #[.int .u8 0, .bool false, .int .i64 0, .string ⟨#[]⟩, .slice none 0 0, .slice none 0 0, .slice none 0 0] 27))) := (below_alloc w _).trans ((below_alloc _ _).mono (by simp))
  have HRB : Hid (((w.alloc (.cells #[.int .u8 0, .bool false, .int .i64 0, .string ⟨#[]⟩, .slice none 0 0, .slice none 0 0, .slice none 0 0] 27)).alloc (.cells #[.int .u8 0, .bool false, .int .i64 0, .string ⟨#[]⟩, .slice none 0 0, .slice none 0 0, .slice none 0 0] 27)).heap[w.heap.size]? = some (.cells #[.int .u8 0, .bool false, .int .i64 0, .string ⟨#[]⟩, .slice none 0 0, .slice none 0 0, .slice none 0 0] 27 (0, 0))) := (Below.heap_alloc _ _ _ (by simp)).trans (heap_alloc_new w _)
  have HR := hide (read_any a n c bs ((w.alloc (.cells #[.int .u8 0, .bool false, .int .i64 0, .string ⟨#[]⟩, .slice none 0 0, .slice none 0 0, .slice none 0 0] 27)).alloc (.cells #[.int .u8 0, .bool false, .int .i64 0, .string ⟨#[]⟩, .slice none 0 0, .slice none 0 0, .slice none 0 0] 27)) hl (hr.below HB1.out) hby (by omega))
  have HL := hide hl
  have HBy := hide hby
  have HQ := hide hq
  clear hl hr hby hq
  go_enter Try.func17, Try.ntmps17
  go_wp2
  refine wp_scope_jumps 0 (fun a' w' => JmpF w.heap.size a' ∧ JmpW w.heap.size n₁ bs w w') (fun _ _ => 0) rfl ?first ?pass
  case first =>
    by_cases hn : n ≤ 8192
    · have hle2 : ¬ ((8192 : Int) < (n : Int)) := by omega
      have hle : decide ((8192 : Int) < (n : Int)) = false := by simp; omega
      go_wp2_with fail
      refine HR.out.mono ?_
      rintro e W2 ⟨p, a', rfl, hrd, hp, ha', hb⟩
      have hs2 : w.heap.size + 2 ≤ W2.heap.size := by have := hb.size; simpa using this
      have hst := first_st hn1 HQ.out hb hrd (by simpa using hp) (by simpa using ha')
      have HST := hide hst
      have HMd := hide (first_mode w.heap.size n₁ q p a' (some ⟨W2.heap.size, 0, none⟩) bs (w.heap.size + 1) ((((W2.alloc (.cells #[.pointer none, .pointer (some ⟨w.heap.size + 1, 0, none⟩)] 70)).setCell ⟨q, 0, none⟩ (.pointer (some ⟨p, 0, none⟩))).setCell ⟨q, 1, none⟩ (.slice (some ⟨W2.heap.size, 0, none⟩) 1 1)).setCell ⟨q, 2, none⟩ (.int .u64 1)))
      have hq2 : W2.heap[q]? = some (.cells #[.pointer none, .slice none 0 0, .int .u64 0] 51 (0, 0)) := by
        rw [hb.block q (by simp; omega), HB1.out.block q hql]; exact HQ.out
      have hqa : (W2.alloc (.cells #[.pointer none, .pointer (some ⟨w.heap.size + 1, 0, none⟩)] 70)).heap[q]? = some (.cells #[.pointer none, .slice none 0 0, .int .u64 0] 51 (0, 0)) := (Below.heap_alloc _ _ _ (by omega)).trans hq2
      have y0 : (W2.alloc (.cells #[.pointer none, .pointer (some ⟨w.heap.size + 1, 0, none⟩)] 70)).cell? ⟨q, 0, none⟩ = some (.pointer none) := by simp only [World.cell?]; rw [hqa]; rfl
      have y1 : (W2.alloc (.cells #[.pointer none, .pointer (some ⟨w.heap.size + 1, 0, none⟩)] 70)).cell? ⟨q, 1, none⟩ = some (.slice none 0 0) := by simp only [World.cell?]; rw [hqa]; rfl
      have y2 : (W2.alloc (.cells #[.pointer none, .pointer (some ⟨w.heap.size + 1, 0, none⟩)] 70)).cell? ⟨q, 2, none⟩ = some (.int .u64 0) := by simp only [World.cell?]; rw [hqa]; rfl
      have y3 : ∀ j, (W2.alloc (.cells #[.pointer none, .pointer (some ⟨w.heap.size + 1, 0, none⟩)] 70)).frozen? ⟨q, j, none⟩ = false := by intro j; simp only [World.frozen?]; rw [hqa]; rfl
      have z0 := y3 0
      have z1 := y3 1
      have z2 := y3 2
      clear hst hrd hp ha' hb hq2 hqa y3
      go_wp2
      generalize (((W2.alloc (.cells #[.pointer none, .pointer (some ⟨w.heap.size + 1, 0, none⟩)] 70)).setCell ⟨q, 0, none⟩ (.pointer (some ⟨p, 0, none⟩))).setCell ⟨q, 1, none⟩ (.slice (some ⟨W2.heap.size, 0, none⟩) 1 1)).setCell ⟨q, 2, none⟩ (.int .u64 1) = Wf at HST HMd ⊢
      go_loopw [] (fun wr => Inv w.heap.size n₁ w q p a' bs (w.heap.size + 1) wr) (fun wr => bs.length - stands wr p)
      case atStart => exact ⟨_, _, _, _, _, _, HST.out, HMd.out⟩
      clear y0 y1 y2 z0 z1 z2 HST HMd HR HB1 HRB HQ
      obtain ⟨st, sa, sc, N, i, e, hst, hmode⟩ := hrel
      have HST := hide hst
      have HMd := hide hmode
      clear hst hmode
      cases st with
      | nil =>
        obtain ⟨k0, k1, k2⟩ := HST.out.dr.cells
        simp only [List.length_nil] at k1
        have HEn := hide (end_any p a' bs i e wr HST.out.rd)
        generalize hz : enEr bs.length i e = z at HEn
        have HZ := hide hz
        clear hz
        go_wp2_with fail
        refine HEn.out.mono ?_
        rintro r V1 ⟨rfl, hb1⟩
        have HST1 := hide (HST.out.on hb1)
        have HB9 := hide hb1
        clear hb1 k0 k1 k2
        by_cases hz0 : z = 0
        · subst hz0
          have hcase : e = 0 ∧ bs.length ≤ i := by
            have := HZ.out
            unfold enEr at this
            split at this
            · omega
            · rename_i h9; omega
          obtain ⟨rfl, hil⟩ := hcase
          have hwand : Wand n₁ (Prv w.heap.size q p a' sa) wr [] (w.heap.size + 1, 0) (bs.take i) := by
            rcases HMd.out with ⟨_, h1, _⟩ | ⟨h1, _⟩
            · exact h1
            · exact absurd rfl h1
          obtain ⟨v, v1, v2, v3, v4⟩ := last_val (N := N) hwand hil (Nat.le_refl _) (agr_refl _ _ _ _)
          have hwt := T.wt_denc v v3
          have hlen := HL.out
          rw [v4] at hwt
          have HCk := hide (fun W (h : Below wr.heap.size wr W) => check_all wr.heap.size v W (v2.on h) h.size (tame_of v (by omega)))
          have HWa := hide hwand
          have HV := hide (And.intro v1 (And.intro v2 (And.intro v3 v4)))
          have hcell : ∀ W, Below wr.heap.size wr W → At W (w.heap.size + 1, 0) v := fun W h => v1.on (fun j hj => h.cell (p := ⟨w.heap.size + 1, 0 + j, none⟩) v1.lt)
          have HCe := hide hcell
          have HSTn := hide (hcell _ HB9.out)
          generalize hck : ckE v = ck at HCk
          have HK := hide hck
          clear hcell v1 v2 v3 v4 hwt hwand hck
          cases v with
          | mk vk vbo vn vt vya vyc vy vla vlc vl vfa vfc vf =>
          obtain ⟨c0, c1, c2, c3, c4, c5, c6⟩ := HSTn.out.cells
          simp only [Nat.zero_add] at c0 c1 c2 c3 c4 c5 c6
          simp only [T.val] at HCk
          go_wp2_with fail
          refine (HCk.out _ HB9.out).mono ?_
          rintro r V2 ⟨rfl, hb2⟩
          have HB10 : Hid (Below wr.heap.size wr V2) := HB9.out.trans (hb2.mono HB9.out.size)
          have HST2 := hide (HST1.out.on hb2)
          clear hb2 c0 c1 c2 c3 c4 c5 c6 HSTn
          by_cases hck0 : ck = 0
          · subst hck0
            have HSTn := hide (HCe.out _ HB10.out)
            obtain ⟨c0, c1, c2, c3, c4, c5, c6⟩ := HSTn.out.cells
            simp only [Nat.zero_add] at c0 c1 c2 c3 c4 c5 c6
            have HBx : Hid (Box7 V2 w.heap.size (.int .u8 0) (.bool false) (.int .i64 0) (.string ⟨#[]⟩) (.slice none 0 0) (.slice none 0 0) (.slice none 0 0)) := HST2.out.rbx
            obtain ⟨d0, d1, d2, d3, d4, d5, d6⟩ := HBx.out.cells
            have fr := HBx.out.free
            go_wp2
            have HBz := hide (HBx.out.set7 (.int .u8 vk) (.bool vbo) (.int .i64 vn) (.string vt) (.slice vya vy.length vyc) (.slice vla vl.list.length vlc) (.slice vfa vf.list.length vfc))
            have HGz := hide (grown_set7 V2 w.heap.size (.int .u8 vk) (.bool vbo) (.int .i64 vn) (.string vt) (.slice vya vy.length vyc) (.slice vla vl.list.length vlc) (.slice vfa vf.list.length vfc))
            generalize ((((((V2.setCell ⟨w.heap.size, 0, none⟩ (.int .u8 vk)).setCell ⟨w.heap.size, 1, none⟩ (.bool vbo)).setCell ⟨w.heap.size, 2, none⟩ (.int .i64 vn)).setCell ⟨w.heap.size, 3, none⟩ (.string vt)).setCell ⟨w.heap.size, 4, none⟩ (.slice vya vy.length vyc)).setCell ⟨w.heap.size, 5, none⟩ (.slice vla vl.list.length vlc)).setCell ⟨w.heap.size, 6, none⟩ (.slice vfa vf.list.length vfc) = Wz at HBz HGz ⊢
            obtain ⟨z0, z1, z2, z3, z4, z5, z6⟩ := HBz.out.cells
            clear c0 c1 c2 c3 c4 c5 c6 d0 d1 d2 d3 d4 d5 d6 fr
            rw [jump_ret]
            refine bodyPost_ret (v := .tuple #[.agg #[.int .u8 vk, .bool vbo, .int .i64 vn, .string vt, .slice vya vy.length vyc, .slice vla vl.list.length vlc, .slice vfa vf.list.length vfc], .int .u16 0]) ?_ rfl ?_
            · simp [results, Try.results17, go_sem, z0, z1, z2, z3, z4, z5, z6]
            · have ha1 : Agr n₁ (Prv w.heap.size q p a' sa) (fun _ _ => False) wr V2 := agr_of_below HB10.out
              have ha2 : Agr n₁ (Prv w.heap.size q p a' sa) (fun _ _ => False) V2 Wz := agr_of_grown HGz.out (.inr (.inr (.inr (.inr rfl))))
              refine ⟨⟨below_grown HST2.out.below HGz.out (by omega) HST2.out.n1, .inl ⟨_, rfl, by omega, fun W hsW haW => ?_⟩⟩, trivial⟩
              have ha3 : Agr n₁ (Prv w.heap.size q p a' sa) (fun _ _ => False) Wz W := agr_of_blocks (fun k h1 h2 _ => haW k h1 h2)
              obtain ⟨x, x1, x2, x3, x4⟩ := last_val (N := N) HWa.out hil (Nat.le_trans (Nat.le_trans HB10.out.size HGz.out.size) hsW) ((ha1.trans ha2 HB10.out.size).trans ha3 (Nat.le_trans HB10.out.size HGz.out.size))
              refine ⟨x, ?_, x2, x3, x4, same_ck HV.out.2.2.1 x3 HV.out.2.2.2 x4 (by omega) HK.out⟩
              rw [same_cells HSTn.out x1 (fun j => ?_)]
              · rfl
              · have hlt := HSTn.out.lt
                simp only [] at hlt
                have hbk : Wz.heap[w.heap.size + 1]? = V2.heap[w.heap.size + 1]? := HGz.out.block _ hlt (fun e => by simp at e)
                have hbk2 : W.heap[w.heap.size + 1]? = Wz.heap[w.heap.size + 1]? := haW _ (by omega) (by have := HGz.out.size; omega)
                simp only [World.cell?]
                rw [hbk2, hbk]
          · have hd : ((ck : Int) == 0) = false := by simp; omega
            have hd' : ((ck : Int) != 0) = true := by simp; omega
            have HX9 := hide hck0
            clear hck0
            go_wp2
            go_step3
            exact ⟨rfl, ⟨rfl, rfl, rfl⟩, HST2.out.below, ck_no HV.out.2.2.1 HV.out.2.2.2 (by rw [HK.out]; exact HX9.out) (by omega), HST2.out.rbx⟩
        · have hno : NoV bs := by
            rcases HMd.out with ⟨rfl, _, h1⟩ | ⟨_, h1⟩
            · refine end_no h1 ?_
              have := HZ.out
              unfold enEr at this
              split at this
              · rename_i h9; exact h9.2
              · omega
            · exact h1
          have HNo := hide hno
          have hd : ((z : Int) == 0) = false := by simp; omega
          have hd' : ((z : Int) != 0) = true := by simp; omega
          clear hno hz0
          go_wp2
          go_step3
          exact ⟨rfl, ⟨rfl, rfl, rfl⟩, HST1.out.below, HNo.out.noc, HST1.out.rbx⟩
      | cons s st =>
        obtain ⟨sn, sb, so⟩ := s
        obtain ⟨k0, k1, k2⟩ := HST.out.dr.cells
        simp only [List.length_cons] at k1
        have HNx := hide (next_st _ _ _ _ _ _ _ _ _ _ _ _ _ _ _ HST.out)
        simp only [ad] at HNx
        go_wp2_with fail
        refine HNx.out.mono ?_
        rintro r V1 ⟨rfl, hmd, hz⟩
        have HM1 := hide (hmd.on (below_alloc V1 (.cells #[.pointer (some ⟨sb, so, none⟩)] 67)))
        have HZ1 : Hid (At (V1.alloc (.cells #[.pointer (some ⟨sb, so, none⟩)] 67)) (sb, so) zeroT) := hz.on (fun j hj => (below_alloc V1 _).cell (p := ⟨sb, so + j, none⟩) (Nat.lt_of_lt_of_le (hmd.rng _ _ (SC.val (sn, (sb, so)) j hj)).2.1 hmd.size))
        have HBx : Hid ((V1.alloc (.cells #[.pointer (some ⟨sb, so, none⟩)] 67)).heap[V1.heap.size]? = some (.cells #[.pointer (some ⟨sb, so, none⟩)] 67 (0, 0))) := heap_alloc_new V1 _
        have HSz : Hid (wr.heap.size ≤ V1.heap.size) := hmd.size
        have HPx : Hid (¬ Prv w.heap.size q p a' sa V1.heap.size) := hmd.sta.fresh _ (Nat.le_refl _)
        clear hmd hz k0 k1 k2
        obtain ⟨k0, k1, k2⟩ := HM1.out.sta.dr.cells
        have HU : Hid (Calls Try.prog 28 #[.pointer (some ⟨p, 0, none⟩)] (V1.alloc (.cells #[.pointer (some ⟨sb, so, none⟩)] 67)) fun r w' => r = .returned (.int .u8 (tagAt bs (nx bs (sn, (sb, so)) i e).2.1 (nx bs (sn, (sb, so)) i e).2.2 : Int)) ∧ Rd w' p a' bs (tk bs (nx bs (sn, (sb, so)) i e).2.1 (nx bs (sn, (sb, so)) i e).2.2 1).1 (tk bs (nx bs (sn, (sb, so)) i e).2.1 (nx bs (sn, (sb, so)) i e).2.2 1).2.1 ∧ (V1.alloc (.cells #[.pointer (some ⟨sb, so, none⟩)] 67)).grownBy w' (some p)) := ru8_any p a' bs _ _ _ HM1.out.sta.rd
        generalize htg : tagAt bs (nx bs (sn, (sb, so)) i e).2.1 (nx bs (sn, (sb, so)) i e).2.2 = b at HU
        have HTa := hide htg
        clear htg
        go_wp2_with fail
        refine HU.out.mono ?_
        rintro r V2 ⟨rfl, hrd, hg⟩
        have HM2 := hide (HM1.out.read hrd hg)
        have hpb : sb ≠ p := fun h => (HM1.out.rng _ _ (SC.val (sn, (sb, so)) 0 (by omega))).2.2.1 (.inr (.inl h))
        have hqb : sb ≠ q := fun h => (HM1.out.rng _ _ (SC.val (sn, (sb, so)) 0 (by omega))).2.2.1 (.inl h)
        have hsl : sb < wr.heap.size := (HM1.out.rng _ _ (SC.val (sn, (sb, so)) 0 (by omega))).2.1
        have hpl : p < wr.heap.size := HST.out.rd.lt
        have hqlw : q < wr.heap.size := HST.out.dr.lt
        have hbxl := HSz.out
        have HZ2 : Hid (At V2 (sb, so) zeroT) := HZ1.out.on (fun j hj => by
          have hbk : V2.heap[sb]? = (V1.alloc (.cells #[.pointer (some ⟨sb, so, none⟩)] 67)).heap[sb]? := hg.block sb (by simp; omega) (fun e => hpb (by cases e; rfl))
          simp only [World.cell?]
          rw [hbk])
        have HBx2 : Hid (V2.heap[V1.heap.size]? = some (.cells #[.pointer (some ⟨sb, so, none⟩)] 67 (0, 0))) := (hg.block _ (by simp) (by intro e; simp at e; omega)).trans HBx.out
        clear hrd hg HM1 HZ1 HBx HU HNx k0 k1 k2
        obtain ⟨k0, k1, k2⟩ := HM2.out.sta.dr.cells
        have b0 : V2.cell? ⟨V1.heap.size, 0, none⟩ = some (.pointer (some ⟨sb, so, none⟩)) := by simp only [World.cell?]; rw [HBx2.out]; rfl
        have hbq : V1.heap.size ≠ q := by omega
        have hbs : V1.heap.size ≠ sb := by omega
        have hbp : V1.heap.size ≠ p := by omega
        have hsb' : sb ≠ V1.heap.size := by omega
        have hqx' : q ≠ V1.heap.size := by omega
        have HLt : Hid (i ≤ bs.length) := HST.out.rd.le
        generalize hbxe : V1.heap.size = bx at HBx2 b0 hbq hbs hbp hbxl HSz HPx hsb' hqx' ⊢
        by_cases hb8 : 1 ≤ b ∧ b ≤ 8
        · have htt := is_tag HMd.out HBy.out HLt.out (by rw [HTa.out]; exact hb8.1)
          obtain ⟨rfl, hwand, hgh, y, j, hnx, hij, hjl, hdr, htk, hny⟩ := htt
          have hta : tagAt bs j 0 = b := by have := HTa.out; rw [hnx] at this; exact this
          have hlen := HL.out
          have HTg : Hid (Tg w.heap.size n₁ q p a' bs (w.heap.size + 1) wr (sn, (sb, so)) st sa N i y j) := ⟨hwand, hgh, hnx, hij, hjl, hdr, hny, by omega, HBy.out⟩
          have HM3 : Hid (Md w.heap.size n₁ w q p a' bs wr (sn, (sb, so)) st sa sc N (bk y) V2 (j + 1) 0) := by
            have h9 := HM2.out
            rw [hnx] at h9
            simp only [htk] at h9
            exact h9
          have HT := hide hta
          have HMs : Hid (stands wr p = i) := stands_is HST.out.rd
          have HJ := hide (And.intro hij hjl)
          have HFr : Hid (∀ j, j < 7 → V2.frozen? ⟨sb, so + j, none⟩ = false) := fun j hj => (HM3.out.rng _ _ (SC.val (sn, (sb, so)) j hj)).2.2.2
          obtain ⟨v0, v1, v2, v3, v4, v5, v6⟩ := HZ2.out.cells
          simp only [TL.list, FL.list, List.length_nil] at v0 v1 v2 v3 v4 v5 v6
          have f0 : V2.frozen? ⟨sb, so, none⟩ = false := HFr.out 0 (by omega)
          have f1 := HFr.out 1 (by omega)
          have f2 := HFr.out 2 (by omega)
          have f3 := HFr.out 3 (by omega)
          have f4 := HFr.out 4 (by omega)
          have f5 := HFr.out 5 (by omega)
          have f6 := HFr.out 6 (by omega)
          clear hwand hgh hnx hij hjl hdr htk hny hta HM2 HTa
          obtain rfl | rfl | rfl | rfl | rfl | rfl | rfl | rfl : b = 1 ∨ b = 2 ∨ b = 3 ∨ b = 4 ∨ b = 5 ∨ b = 6 ∨ b = 7 ∨ b = 8 := by omega
          · go_wp2
            have HM4 := hide (HM3.out.set 0 (by omega) (.int .u8 1))
            have HA4 : Hid (At (V2.setCell ⟨sb, so, none⟩ (.int .u8 1)) (sb, so) (leafT 1 false 0 ⟨#[]⟩)) := HZ2.out.put 0 (by omega) _ rfl
            go_roundw
            case rel => exact ⟨st, sa, sc, N, j + 1, 0, HM4.out.sta, mode_null HTg.out HT.out HM4.out HA4.out⟩
            case measure =>
              have h1 : stands (V2.setCell ⟨sb, so, none⟩ (.int .u8 1)) p = j + 1 := stands_is HM4.out.sta.rd
              have h2 := HMs.out
              have h3 := HJ.out
              omega
          · go_wp2
            have g0 : V2.drew.cell? ⟨bx, 0, none⟩ = some (.pointer (some ⟨sb, so, none⟩)) := b0
            go_region_held3 (fun W => W.cell? ⟨bx, 0, none⟩ = some (.pointer (some ⟨sb, so, none⟩))) ((first | assumption | go_keep)) ((first | (go_at_call 30)))
            go_wp2
            have HM4 := hide (((HM3.out.on (below_drewN (Below.refl _ _) 1)).set 0 (by omega) (.int .u8 2)).set 1 (by omega) (.bool false))
            have HA4 : Hid (At ((V2.drew.setCell ⟨sb, so, none⟩ (.int .u8 2)).setCell ⟨sb, so + 1, none⟩ (.bool false)) (sb, so) (leafT 2 false 0 ⟨#[]⟩)) := (At.put (W := V2.drew) (v' := leafT 2 false 0 ⟨#[]⟩) HZ2.out 0 (by omega) (.int .u8 2) rfl).put 1 (by omega) _ rfl
            go_roundw
            case rel => exact ⟨st, sa, sc, N, j + 1, 0, HM4.out.sta, mode_bool HTg.out false HT.out HM4.out HA4.out⟩
            case measure =>
              have h1 : stands ((V2.setCell ⟨sb, so, none⟩ (.int .u8 2)).setCell ⟨sb, so + 1, none⟩ (.bool false)).drew p = j + 1 := stands_is HM4.out.sta.rd
              have h2 := HMs.out
              have h3 := HJ.out
              omega
          · go_wp2
            have g0 : V2.drew.cell? ⟨bx, 0, none⟩ = some (.pointer (some ⟨sb, so, none⟩)) := b0
            go_region_held3 (fun W => W.cell? ⟨bx, 0, none⟩ = some (.pointer (some ⟨sb, so, none⟩))) ((first | assumption | go_keep)) ((first | (go_at_call 30)))
            go_wp2
            have HM4 := hide (((HM3.out.on (below_drewN (Below.refl _ _) 1)).set 0 (by omega) (.int .u8 2)).set 1 (by omega) (.bool true))
            have HA4 : Hid (At ((V2.drew.setCell ⟨sb, so, none⟩ (.int .u8 2)).setCell ⟨sb, so + 1, none⟩ (.bool true)) (sb, so) (leafT 2 true 0 ⟨#[]⟩)) := (At.put (W := V2.drew) (v' := leafT 2 false 0 ⟨#[]⟩) HZ2.out 0 (by omega) (.int .u8 2) rfl).put 1 (by omega) _ rfl
            go_roundw
            case rel => exact ⟨st, sa, sc, N, j + 1, 0, HM4.out.sta, mode_bool HTg.out true HT.out HM4.out HA4.out⟩
            case measure =>
              have h1 : stands ((V2.setCell ⟨sb, so, none⟩ (.int .u8 2)).setCell ⟨sb, so + 1, none⟩ (.bool true)).drew p = j + 1 := stands_is HM4.out.sta.rd
              have h2 := HMs.out
              have h3 := HJ.out
              omega
          · have HP := hide (rsigned_any p a' bs (j + 1) 0 V2.drew (HM3.out.sta.rd.drewN 1))
            have HMd4 := hide (fun W z => fun (h : Md w.heap.size n₁ w q p a' bs wr (sn, (sb, so)) st sa sc N (bk y) W _ _) (h2 : At W (sb, so) (leafT 3 false z ⟨#[]⟩)) (hz : z = zr (nm bs (j + 1) 0).1) => mode_num HTg.out HT.out h (hz ▸ h2))
            generalize hR : (nm bs (j + 1) 0) = R at HP HMd4
            have HX4 : Hid (j + 1 ≤ (tk bs (j + 1) R.2.2 R.2.1).1) := by rw [Hid, ← hR]; exact tk_up bs (j + 1) _ _ (by have := HJ.out; omega)
            clear hR
            generalize tk bs (j + 1) R.2.2 R.2.1 = K4 at HP HMd4 HX4
            have HZ9 : Hid (∀ V, V2.drew.grownBy V (some p) → V.cell? ⟨bx, 0, none⟩ = some (.pointer (some ⟨sb, so, none⟩)) ∧ V.cell? ⟨q, 0, none⟩ = some (.pointer (some ⟨p, 0, none⟩)) ∧ V.cell? ⟨sb, so, none⟩ = some (.int .u8 0) ∧ V.cell? ⟨sb, so + 2, none⟩ = some (.int .i64 0) ∧ V.frozen? ⟨sb, so, none⟩ = false ∧ V.frozen? ⟨sb, so + 2, none⟩ = false ∧ At V (sb, so) zeroT) := by
              intro V hg
              have hbk : V.heap[sb]? = V2.heap[sb]? := hg.block sb (by have := HM3.out.size; show sb < V2.heap.size; omega) (fun e => hpb (by cases e; rfl))
              refine ⟨hg.cell (w := V2.drew) b0 (fun e => hbp (by simpa using e)), hg.cell (w := V2.drew) k0 (fun e => HST.out.qp (by simpa using e)), hg.cell (w := V2.drew) v0 (fun e => hpb (by simpa using e)), hg.cell (w := V2.drew) v2 (fun e => hpb (by simpa using e)), ?_, ?_, HZ2.out.on (fun j hj => ?_)⟩
              · simp only [World.frozen?] at f0 ⊢; rw [hbk]; exact f0
              · simp only [World.frozen?] at f2 ⊢; rw [hbk]; exact f2
              · simp only [World.cell?]; rw [hbk]
            go_wp2
            have g0 : V2.drew.cell? ⟨bx, 0, none⟩ = some (.pointer (some ⟨sb, so, none⟩)) := b0
            have g1 : V2.drew.cell? ⟨q, 0, none⟩ = some (.pointer (some ⟨p, 0, none⟩)) := k0
            go_region_held3 (fun W => W.cell? ⟨bx, 0, none⟩ = some (.pointer (some ⟨sb, so, none⟩)) ∧ W.cell? ⟨q, 0, none⟩ = some (.pointer (some ⟨p, 0, none⟩))) ((first | (refine ⟨?_, ?_⟩ <;> assumption) | go_keep)) ((first | (go_at_call 29; refine HP.out.mono ?_; intro e' V3 hh; obtain ⟨rfl, hr3, hg3⟩ := hh; obtain ⟨y0, y1, y2, y3, y4, y5, y6⟩ := HZ9.out _ hg3; have HR3 := hide hr3; have HG3 := hide hg3; have HA3 := hide y6; clear hr3 hg3 y6)))
            go_wp2
            have HM4 := hide ((((HM3.out.on (below_drewN (Below.refl _ _) 1)).read HR3.out HG3.out).set 0 (by omega) (.int .u8 3)).set 2 (by omega) (.int .i64 (zr R.1)))
            have HA4 : Hid (At ((V3.setCell ⟨sb, so, none⟩ (.int .u8 3)).setCell ⟨sb, so + 2, none⟩ (.int .i64 (zr R.1))) (sb, so) (leafT 3 false (zr R.1) ⟨#[]⟩)) := (At.put (W := V3) (v' := leafT 3 false 0 ⟨#[]⟩) HA3.out 0 (by omega) (.int .u8 3) rfl).put 2 (by omega) _ rfl
            go_roundw
            case rel => exact ⟨st, sa, sc, N, _, _, HM4.out.sta, HMd4.out _ _ HM4.out HA4.out rfl⟩
            case measure =>
              have h1 : stands ((V3.setCell ⟨sb, so, none⟩ (.int .u8 3)).setCell ⟨sb, so + 2, none⟩ (.int .i64 (zr R.1))) p = K4.1 := stands_is HM4.out.sta.rd
              have h2 := HMs.out
              have h3 := HJ.out
              have h4 := HX4.out
              omega
          · have HP := hide (rtext_any p a' bs (j + 1) 0 V2.drew (HM3.out.sta.rd.drewN 1))
            have HMd4 := hide (fun W => fun (z : List Int) (i' e' : Nat) (hz : rt bs (j + 1) 0 = (z, i', e')) (h : Md w.heap.size n₁ w q p a' bs wr (sn, (sb, so)) st sa sc N (bk y) W i' e') (h2 : At W (sb, so) (leafT 4 false 0 (bk z))) => mode_text HTg.out HT.out hz h h2)
            have HX4 : Hid (j + 1 ≤ (rt bs (j + 1) 0).2.1) := rt_up bs (j + 1) (by have := HJ.out; omega)
            rcases hR : rt bs (j + 1) 0 with ⟨tz, ti, te⟩
            rw [hR] at HP HMd4 HX4
            simp only [] at HP HX4
            replace HMd4 := hide (fun W h h2 => HMd4.out W tz ti te rfl h h2)
            clear hR
            have HZ9 : Hid (∀ V, V2.drew.grownBy V (some p) → V.cell? ⟨bx, 0, none⟩ = some (.pointer (some ⟨sb, so, none⟩)) ∧ V.cell? ⟨q, 0, none⟩ = some (.pointer (some ⟨p, 0, none⟩)) ∧ V.cell? ⟨sb, so, none⟩ = some (.int .u8 0) ∧ V.cell? ⟨sb, so + 3, none⟩ = some (.string ⟨#[]⟩) ∧ V.frozen? ⟨sb, so, none⟩ = false ∧ V.frozen? ⟨sb, so + 3, none⟩ = false ∧ At V (sb, so) zeroT) := by
              intro V hg
              have hbk : V.heap[sb]? = V2.heap[sb]? := hg.block sb (by have := HM3.out.size; show sb < V2.heap.size; omega) (fun e => hpb (by cases e; rfl))
              refine ⟨hg.cell (w := V2.drew) b0 (fun e => hbp (by simpa using e)), hg.cell (w := V2.drew) k0 (fun e => HST.out.qp (by simpa using e)), hg.cell (w := V2.drew) v0 (fun e => hpb (by simpa using e)), hg.cell (w := V2.drew) v3 (fun e => hpb (by simpa using e)), ?_, ?_, HZ2.out.on (fun j hj => ?_)⟩
              · simp only [World.frozen?] at f0 ⊢; rw [hbk]; exact f0
              · simp only [World.frozen?] at f3 ⊢; rw [hbk]; exact f3
              · simp only [World.cell?]; rw [hbk]
            go_wp2
            have g0 : V2.drew.cell? ⟨bx, 0, none⟩ = some (.pointer (some ⟨sb, so, none⟩)) := b0
            have g1 : V2.drew.cell? ⟨q, 0, none⟩ = some (.pointer (some ⟨p, 0, none⟩)) := k0
            go_region_held3 (fun W => W.cell? ⟨bx, 0, none⟩ = some (.pointer (some ⟨sb, so, none⟩)) ∧ W.cell? ⟨q, 0, none⟩ = some (.pointer (some ⟨p, 0, none⟩))) ((first | (refine ⟨?_, ?_⟩ <;> assumption) | go_keep)) ((first | (go_at_call 30; refine HP.out.mono ?_; intro e' V3 hh; obtain ⟨rfl, hr3, hg3⟩ := hh; obtain ⟨y0, y1, y2, y3, y4, y5, y6⟩ := HZ9.out _ hg3; have HR3 := hide hr3; have HG3 := hide hg3; have HA3 := hide y6; clear hr3 hg3 y6)))
            go_wp2
            have HM4 := hide ((((HM3.out.on (below_drewN (Below.refl _ _) 1)).read HR3.out HG3.out).set 0 (by omega) (.int .u8 4)).set 3 (by omega) (.string (bk tz)))
            have HA4 : Hid (At ((V3.setCell ⟨sb, so, none⟩ (.int .u8 4)).setCell ⟨sb, so + 3, none⟩ (.string (bk tz))) (sb, so) (leafT 4 false 0 (bk tz))) := (At.put (W := V3) (v' := leafT 4 false 0 ⟨#[]⟩) HA3.out 0 (by omega) (.int .u8 4) rfl).put 3 (by omega) _ rfl
            go_roundw
            case rel => exact ⟨st, sa, sc, N, _, _, HM4.out.sta, HMd4.out _ HM4.out HA4.out⟩
            case measure =>
              have h1 : stands ((V3.setCell ⟨sb, so, none⟩ (.int .u8 4)).setCell ⟨sb, so + 3, none⟩ (.string (bk tz))) p = ti := stands_is HM4.out.sta.rd
              have h2 := HMs.out
              have h3 := HJ.out
              have h4 := HX4.out
              omega
          · have HP := hide (rtext_any p a' bs (j + 1) 0 V2.drew (HM3.out.sta.rd.drewN 1))
            have HMd4 := hide (fun W => fun (z : List Int) (i' e' : Nat) (hz : rt bs (j + 1) 0 = (z, i', e')) (h : Md w.heap.size n₁ w q p a' bs wr (sn, (sb, so)) st sa sc N (bk y) W i' e') (ya : Option Addr) (yc : Nat) (h2 : At W (sb, so) (.mk 5 false 0 ⟨#[]⟩ ya yc z none 0 .nil none 0 .nil)) (h3 : (ya = none ∧ yc = 0 ∧ z = []) ∨ ∃ g, ya = some ⟨g, 0, none⟩ ∧ wr.heap.size ≤ g ∧ g < W.heap.size ∧ ¬ Prv w.heap.size q p a' sa g ∧ ∀ k, k < z.length → W.cell? ⟨g, k, none⟩ = some (.int .u8 (z.getD k 0))) => mode_bytes HTg.out HT.out hz h ya yc h2 h3)
            have HX4 : Hid (j + 1 ≤ (rt bs (j + 1) 0).2.1) := rt_up bs (j + 1) (by have := HJ.out; omega)
            have HBz := hide (rt_byts bs (j + 1) HBy.out)
            rcases hR : rt bs (j + 1) 0 with ⟨tz, ti, te⟩
            rw [hR] at HP HMd4 HX4 HBz
            simp only [] at HP HX4
            replace HMd4 := hide (fun W h ya yc h2 h3 => HMd4.out W tz ti te rfl h ya yc h2 h3)
            clear hR
            obtain ⟨cp, al, hcv, hal⟩ := conv_bytes tz (HBz.out)
            have HAl := hide hal
            clear hal
            have HZ9 : Hid (∀ V, V2.drew.grownBy V (some p) → (V.cell? ⟨bx, 0, none⟩ = some (.pointer (some ⟨sb, so, none⟩)) ∧ V.cell? ⟨q, 0, none⟩ = some (.pointer (some ⟨p, 0, none⟩)) ∧ V.cell? ⟨sb, so, none⟩ = some (.int .u8 0) ∧ V.cell? ⟨sb, so + 4, none⟩ = some (.slice none 0 0) ∧ V.frozen? ⟨sb, so, none⟩ = false ∧ V.frozen? ⟨sb, so + 4, none⟩ = false ∧ At V (sb, so) zeroT) ∧ ((al V).cell? ⟨bx, 0, none⟩ = some (.pointer (some ⟨sb, so, none⟩)) ∧ (al V).cell? ⟨q, 0, none⟩ = some (.pointer (some ⟨p, 0, none⟩)) ∧ (al V).cell? ⟨sb, so, none⟩ = some (.int .u8 0) ∧ (al V).cell? ⟨sb, so + 4, none⟩ = some (.slice none 0 0) ∧ (al V).frozen? ⟨sb, so, none⟩ = false ∧ (al V).frozen? ⟨sb, so + 4, none⟩ = false ∧ At (al V) (sb, so) zeroT) ∧ ((al (V.setCell ⟨sb, so, none⟩ (.int .u8 5))).cell? ⟨bx, 0, none⟩ = some (.pointer (some ⟨sb, so, none⟩)) ∧ (al (V.setCell ⟨sb, so, none⟩ (.int .u8 5))).cell? ⟨q, 0, none⟩ = some (.pointer (some ⟨p, 0, none⟩)) ∧ (al (V.setCell ⟨sb, so, none⟩ (.int .u8 5))).cell? ⟨sb, so + 4, none⟩ = some (.slice none 0 0) ∧ (al (V.setCell ⟨sb, so, none⟩ (.int .u8 5))).frozen? ⟨sb, so + 4, none⟩ = false)) := by
              intro V hg
              have hszv : V2.heap.size ≤ V.heap.size := hg.size
              have hs2' := HM3.out.size
              have hqv : q < V2.heap.size := HM3.out.sta.dr.lt
              have hbv : bx < V2.heap.size := cell_lt b0
              have hbk : V.heap[sb]? = V2.heap[sb]? := hg.block sb (by show sb < V2.heap.size; omega) (fun e => hpb (by cases e; rfl))
              have a1 : V.cell? ⟨bx, 0, none⟩ = some (.pointer (some ⟨sb, so, none⟩)) ∧ V.cell? ⟨q, 0, none⟩ = some (.pointer (some ⟨p, 0, none⟩)) ∧ V.cell? ⟨sb, so, none⟩ = some (.int .u8 0) ∧ V.cell? ⟨sb, so + 4, none⟩ = some (.slice none 0 0) ∧ V.frozen? ⟨sb, so, none⟩ = false ∧ V.frozen? ⟨sb, so + 4, none⟩ = false ∧ At V (sb, so) zeroT := by
                refine ⟨hg.cell (w := V2.drew) b0 (fun e => hbp (by simpa using e)), hg.cell (w := V2.drew) k0 (fun e => HST.out.qp (by simpa using e)), hg.cell (w := V2.drew) v0 (fun e => hpb (by simpa using e)), hg.cell (w := V2.drew) v4 (fun e => hpb (by simpa using e)), ?_, ?_, HZ2.out.on (fun j hj => ?_)⟩
                · simp only [World.frozen?] at f0 ⊢; rw [hbk]; exact f0
                · simp only [World.frozen?] at f4 ⊢; rw [hbk]; exact f4
                · simp only [World.cell?]; rw [hbk]
              obtain ⟨a2, a3, a4, a5, a6, a7, a8⟩ := a1
              obtain ⟨c1, c2, c3⟩ := HAl.out V
              obtain ⟨e1, e2, e3⟩ := HAl.out (V.setCell ⟨sb, so, none⟩ (.int .u8 5))
              have fz : ∀ {W W' : World} {o : Nat}, W'.heap[sb]? = W.heap[sb]? → W.frozen? ⟨sb, o, none⟩ = false → W'.frozen? ⟨sb, o, none⟩ = false := fun h1 h2 => by simp only [World.frozen?] at h2 ⊢; rw [h1]; exact h2
              refine ⟨⟨a2, a3, a4, a5, a6, a7, a8⟩, ⟨(c1.cell (p := ⟨bx, 0, none⟩) (by show bx < _; omega)).trans a2, (c1.cell (p := ⟨q, 0, none⟩) (by show q < _; omega)).trans a3, (c1.cell (p := ⟨sb, so, none⟩) (by show sb < _; omega)).trans a4, (c1.cell (p := ⟨sb, so + 4, none⟩) (by show sb < _; omega)).trans a5, fz (c1.block sb (by omega)) a6, fz (c1.block sb (by omega)) a7, a8.on (fun j hj => c1.cell (p := ⟨sb, so + j, none⟩) (by show sb < _; omega))⟩, ?_⟩
              rw [World.size_setCell] at e1
              refine ⟨(e1.cell (p := ⟨bx, 0, none⟩) (by show bx < _; omega)).trans ?_, (e1.cell (p := ⟨q, 0, none⟩) (by show q < _; omega)).trans ?_, (e1.cell (p := ⟨sb, so + 4, none⟩) (by show sb < _; omega)).trans ?_, fz (e1.block sb (by omega)) (by simpa using a7)⟩
              · rw [World.cell?_setCell_far _ _ _ _ (by simpa using hsb')]; exact a2
              · rw [World.cell?_setCell_far _ _ _ _ (by simpa using hqb)]; exact a3
              · rw [World.cell?_setCell_other _ _ _ _ (by intro e; have := congrArg Addr.off e; simp at this)]; exact a5
            go_wp2
            have g0 : V2.drew.cell? ⟨bx, 0, none⟩ = some (.pointer (some ⟨sb, so, none⟩)) := b0
            have g1 : V2.drew.cell? ⟨q, 0, none⟩ = some (.pointer (some ⟨p, 0, none⟩)) := k0
            refine wp_region_noPanic ?_
            refine wp_region_held_drew (S := (fun W => W.cell? ⟨bx, 0, none⟩ = some (.pointer (some ⟨sb, so, none⟩)) ∧ W.cell? ⟨q, 0, none⟩ = some (.pointer (some ⟨p, 0, none⟩)))) (by kernel_rfl) ⟨g0, g1⟩ (fun _hS => ?_)
            refine wpAnyH_take (i := 0) (oi := { dst := some 87, op := Op.load 67 (Operand.tmp 7), type := 67, pos := "read.go:41", after := #[], guard := none }) (v := ?v0x1) rfl (by kernel_rfl) (by kernel_rfl) (by kernel_rfl) (fun _ _ _ h => h) (Or.inl ⟨by rfl, ?hy0x1⟩) (by assumption) ?rest0x1
            case hy0x1 => (intro w hSw; (try dsimp only at hSw); (first | (go_simp; with_reducible rfl) | go_simp))
            try simp only [Act.put, List.setIfInBounds_toArray, List.set_cons_zero, List.set_cons_succ]
            refine wpAnyH_take (i := 1) (oi := { dst := some 88, op := Op.load 67 (Operand.tmp 7), type := 67, pos := "read.go:41", after := #[{ on := 10, ground := Ground.gcOnly Departure.lateStores }], guard := none }) (v := ?v1x2) rfl (by kernel_rfl) (by kernel_rfl) (by kernel_rfl) (fun _ _ _ h => h) (Or.inl ⟨by rfl, ?hy1x2⟩) (by assumption) ?rest1x2
            case hy1x2 => (intro w hSw; (try dsimp only at hSw); (first | (go_simp; with_reducible rfl) | go_simp))
            try simp only [Act.put, List.setIfInBounds_toArray, List.set_cons_zero, List.set_cons_succ]
            refine wpAnyH_take (i := 2) (oi := { dst := some 89, op := Op.move (Operand.tmp 0), type := 65, pos := "read.go:41", after := #[], guard := none }) (v := ?v2x3) rfl (by kernel_rfl) (by kernel_rfl) (by kernel_rfl) (fun _ _ _ h => h) (Or.inl ⟨by rfl, ?hy2x3⟩) (by assumption) ?rest2x3
            case hy2x3 => (intro w hSw; (try dsimp only at hSw); (first | (go_simp; with_reducible rfl) | go_simp))
            try simp only [Act.put, List.setIfInBounds_toArray, List.set_cons_zero, List.set_cons_succ]
            refine wpAnyH_take (i := 3) (oi := { dst := some 90, op := Op.nilCheck (Operand.tmp 89), type := 0, pos := "read.go:41", after := #[{ on := 2, ground := Ground.data }], guard := none }) (v := ?v3x4) rfl (by kernel_rfl) (by kernel_rfl) (by kernel_rfl) (fun _ _ _ h => h) (Or.inl ⟨by rfl, ?hy3x4⟩) (by assumption) ?rest3x4
            case hy3x4 => (intro w hSw; (try dsimp only at hSw); (first | (go_simp; with_reducible rfl) | go_simp))
            try simp only [Act.put, List.setIfInBounds_toArray, List.set_cons_zero, List.set_cons_succ]
            refine wpAnyH_take (i := 4) (oi := { dst := some 91, op := Op.fieldAddr 51 (Operand.tmp 90) 0, type := 0, pos := "read.go:41", after := #[{ on := 3, ground := Ground.data }], guard := none }) (v := ?v4x5) rfl (by kernel_rfl) (by kernel_rfl) (by kernel_rfl) (fun _ _ _ h => h) (Or.inl ⟨by rfl, ?hy4x5⟩) (by assumption) ?rest4x5
            case hy4x5 => (intro w hSw; (try dsimp only at hSw); (first | (go_simp; with_reducible rfl) | go_simp))
            try simp only [Act.put, List.setIfInBounds_toArray, List.set_cons_zero, List.set_cons_succ]
            refine wpAnyH_take (i := 5) (oi := { dst := some 92, op := Op.load 47 (Operand.tmp 91), type := 47, pos := "read.go:41", after := #[{ on := 4, ground := Ground.data }], guard := none }) (v := ?v5x6) rfl (by kernel_rfl) (by kernel_rfl) (by kernel_rfl) (fun _ _ _ h => h) (Or.inl ⟨by rfl, ?hy5x6⟩) (by assumption) ?rest5x6
            case hy5x6 => (intro w hSw; (try dsimp only at hSw); (first | (go_simp; with_reducible rfl) | go_simp))
            try simp only [Act.put, List.setIfInBounds_toArray, List.set_cons_zero, List.set_cons_succ]
            refine wpAnyH_ready (rs := [6]) (by kernel_rfl) (by simp) ?_
            refine AllReadyH.cons (o := { dst := some 93, op := Op.call { callee := Callee.value (Operand.func 30), args := #[Operand.tmp 92], argTypes := #[47] }, type := 9, pos := "read.go:41", after := #[{ on := 5, ground := Ground.data }], guard := none }) rfl (fun K hK => ?_) (AllReadyH.nil)
            go_simp
            refine HP.out.mono ?_
            intro e' V3 hh
            obtain ⟨rfl, hr3, hg3⟩ := hh
            obtain ⟨⟨y0, y1, y2, y3, y4, y5, y6⟩, ⟨m0, m1, m2, m3, m4, m5, m6⟩, l0, l1, l2, l3⟩ := HZ9.out _ hg3
            have HR3 := hide hr3
            have HG3 := hide hg3
            have HA3 := hide y6
            have HA3' := hide m6
            clear hr3 hg3 y6 m6
            go_simp
            refine hK.out _ _ ?_ (fun _hS => ?_)
            · (first | (refine ⟨?_, ?_⟩ <;> assumption) | go_keep)
            clear hK K
            try simp only [Act.put, List.setIfInBounds_toArray, List.set_cons_zero, List.set_cons_succ]
            refine wpAnyH_take (i := 8) (oi := { dst := some 95, op := Op.nilCheck (Operand.tmp 87), type := 0, pos := "read.go:41", after := #[{ on := 0, ground := Ground.data }, { on := 0, ground := Ground.phase }, { on := 1, ground := Ground.textOnly Departure.lateStores }, { on := 2, ground := Ground.textOnly Departure.lateStores }, { on := 3, ground := Ground.textOnly Departure.lateStoresUnsure }, { on := 4, ground := Ground.textOnly Departure.lateStoresUnsure }, { on := 5, ground := Ground.phase }, { on := 6, ground := Ground.phase }, { on := 7, ground := Ground.textOnly Departure.lateStoresUnsure }], guard := none }) (v := ?v8x7) rfl (by kernel_rfl) (by kernel_rfl) (by kernel_rfl) (fun _ _ _ h => h) (Or.inl ⟨by rfl, ?hy8x7⟩) (by assumption) ?rest8x7
            case hy8x7 => (intro w hSw; (try dsimp only at hSw); (first | (go_simp; with_reducible rfl) | go_simp))
            try simp only [Act.put, List.setIfInBounds_toArray, List.set_cons_zero, List.set_cons_succ]
            refine wpAnyH_take (i := 9) (oi := { dst := some 96, op := Op.fieldAddr 27 (Operand.tmp 95) 0, type := 0, pos := "read.go:41", after := #[{ on := 8, ground := Ground.data }, { on := 0, ground := Ground.phase }, { on := 1, ground := Ground.textOnly Departure.lateStores }, { on := 2, ground := Ground.textOnly Departure.lateStores }, { on := 3, ground := Ground.textOnly Departure.lateStoresUnsure }, { on := 4, ground := Ground.textOnly Departure.lateStoresUnsure }, { on := 5, ground := Ground.phase }, { on := 6, ground := Ground.phase }, { on := 7, ground := Ground.textOnly Departure.lateStoresUnsure }], guard := none }) (v := ?v9x8) rfl (by kernel_rfl) (by kernel_rfl) (by kernel_rfl) (fun _ _ _ h => h) (Or.inl ⟨by rfl, ?hy9x8⟩) (by assumption) ?rest9x8
            case hy9x8 => (intro w hSw; (try dsimp only at hSw); (first | (go_simp; with_reducible rfl) | go_simp))
            try simp only [Act.put, List.setIfInBounds_toArray, List.set_cons_zero, List.set_cons_succ]
            refine wpAnyH_ready (rs := [7, 10]) (by kernel_rfl) (by simp) ?_
            refine AllReadyH.cons (o := { dst := some 94, op := Op.convert 9 23 (Operand.tmp 93), type := 23, pos := "read.go:41", after := #[{ on := 6, ground := Ground.data }], guard := none }) rfl (fun K hK => ?_) (AllReadyH.cons (o := { dst := none, op := Op.store 22 (Operand.tmp 96) (Operand.const (Value.int IntKind.u8 5)), type := 0, pos := "read.go:41", after := #[{ on := 9, ground := Ground.data }, { on := 6, ground := Ground.chain }, { on := 0, ground := Ground.phase }, { on := 1, ground := Ground.textOnly Departure.lateStores }, { on := 2, ground := Ground.textOnly Departure.lateStores }, { on := 3, ground := Ground.textOnly Departure.lateStoresUnsure }, { on := 4, ground := Ground.textOnly Departure.lateStoresUnsure }, { on := 5, ground := Ground.phase }, { on := 6, ground := Ground.phase }, { on := 7, ground := Ground.textOnly Departure.lateStoresUnsure }], guard := none }) rfl (fun K hK => ?_) (AllReadyH.nil))
            · go_simp
              refine hK.out _ _ ?_ (fun _hS => ?_)
              · (first | (refine ⟨?_, ?_⟩ <;> assumption) | go_keep)
              clear hK K
              try simp only [Act.put, List.setIfInBounds_toArray, List.set_cons_zero, List.set_cons_succ]
              refine wpAnyH_ready (rs := [10]) (by kernel_rfl) (by simp) ?_
              refine AllReadyH.cons (o := { dst := none, op := Op.store 22 (Operand.tmp 96) (Operand.const (Value.int IntKind.u8 5)), type := 0, pos := "read.go:41", after := #[{ on := 9, ground := Ground.data }, { on := 6, ground := Ground.chain }, { on := 0, ground := Ground.phase }, { on := 1, ground := Ground.textOnly Departure.lateStores }, { on := 2, ground := Ground.textOnly Departure.lateStores }, { on := 3, ground := Ground.textOnly Departure.lateStoresUnsure }, { on := 4, ground := Ground.textOnly Departure.lateStoresUnsure }, { on := 5, ground := Ground.phase }, { on := 6, ground := Ground.phase }, { on := 7, ground := Ground.textOnly Departure.lateStoresUnsure }], guard := none }) rfl (fun K hK => ?_) (AllReadyH.nil)
              go_simp
              refine hK.out _ _ ?_ (fun _hS => ?_)
              · (first | (refine ⟨?_, ?_⟩ <;> assumption) | go_keep)
              clear hK K
              try simp only [Act.put, List.setIfInBounds_toArray, List.set_cons_zero, List.set_cons_succ]
              refine wpAnyH_take (i := 11) (oi := { dst := some 97, op := Op.nilCheck (Operand.tmp 88), type := 0, pos := "read.go:41", after := #[{ on := 1, ground := Ground.data }, { on := 0, ground := Ground.phase }, { on := 1, ground := Ground.phase }, { on := 2, ground := Ground.phase }, { on := 3, ground := Ground.phase }, { on := 4, ground := Ground.phase }, { on := 5, ground := Ground.phase }, { on := 6, ground := Ground.phase }, { on := 7, ground := Ground.phase }, { on := 8, ground := Ground.phase }, { on := 9, ground := Ground.phase }, { on := 10, ground := Ground.phase }], guard := none }) (v := ?v11x9) rfl (by kernel_rfl) (by kernel_rfl) (by kernel_rfl) (fun _ _ _ h => h) (Or.inl ⟨by rfl, ?hy11x9⟩) (by assumption) ?rest11x9
              case hy11x9 => (intro w hSw; (try dsimp only at hSw); (first | (go_simp; with_reducible rfl) | go_simp))
              try simp only [Act.put, List.setIfInBounds_toArray, List.set_cons_zero, List.set_cons_succ]
              refine wpAnyH_take (i := 12) (oi := { dst := some 98, op := Op.fieldAddr 27 (Operand.tmp 97) 4, type := 0, pos := "read.go:41", after := #[{ on := 11, ground := Ground.data }, { on := 0, ground := Ground.phase }, { on := 1, ground := Ground.phase }, { on := 2, ground := Ground.phase }, { on := 3, ground := Ground.phase }, { on := 4, ground := Ground.phase }, { on := 5, ground := Ground.phase }, { on := 6, ground := Ground.phase }, { on := 7, ground := Ground.phase }, { on := 8, ground := Ground.phase }, { on := 9, ground := Ground.phase }, { on := 10, ground := Ground.phase }], guard := none }) (v := ?v12x10) rfl (by kernel_rfl) (by kernel_rfl) (by kernel_rfl) (fun _ _ _ h => h) (Or.inl ⟨by rfl, ?hy12x10⟩) (by assumption) ?rest12x10
              case hy12x10 => (intro w hSw; (try dsimp only at hSw); (first | (go_simp; with_reducible rfl) | go_simp))
              try simp only [Act.put, List.setIfInBounds_toArray, List.set_cons_zero, List.set_cons_succ]
              refine wpAnyH_ready (rs := [13]) (by kernel_rfl) (by simp) ?_
              refine AllReadyH.cons (o := { dst := none, op := Op.store 23 (Operand.tmp 98) (Operand.tmp 94), type := 0, pos := "read.go:41", after := #[{ on := 12, ground := Ground.data }, { on := 7, ground := Ground.data }, { on := 10, ground := Ground.chain }, { on := 0, ground := Ground.phase }, { on := 1, ground := Ground.phase }, { on := 2, ground := Ground.phase }, { on := 3, ground := Ground.phase }, { on := 4, ground := Ground.phase }, { on := 5, ground := Ground.phase }, { on := 6, ground := Ground.phase }, { on := 7, ground := Ground.phase }, { on := 8, ground := Ground.phase }, { on := 9, ground := Ground.phase }, { on := 10, ground := Ground.phase }], guard := none }) rfl (fun K hK => ?_) (AllReadyH.nil)
              go_simp
              refine hK.out _ _ ?_ (fun _hS => ?_)
              · (first | (refine ⟨?_, ?_⟩ <;> assumption) | go_keep)
              clear hK K
              try simp only [Act.put, List.setIfInBounds_toArray, List.set_cons_zero, List.set_cons_succ]
              refine wpAnyH_done (by kernel_rfl) ?_ _
              refine NoPanic.normal ?_
              go_wp2
              have HM4 := hide (((((HM3.out.on (below_drewN (Below.refl _ _) 1)).read HR3.out HG3.out).on (HAl.out V3).1).set 0 (by omega) (.int .u8 5)).set 4 (by omega) (.slice (some ⟨V3.heap.size, 0, none⟩) tz.length (cp V3)))
              have HA4 : Hid (At (((al V3).setCell ⟨sb, so, none⟩ (.int .u8 5)).setCell ⟨sb, so + 4, none⟩ (.slice (some ⟨V3.heap.size, 0, none⟩) tz.length (cp V3))) (sb, so) (.mk 5 false 0 ⟨#[]⟩ (some ⟨V3.heap.size, 0, none⟩) (cp V3) tz none 0 .nil none 0 .nil)) := (At.put (W := al V3) (v' := .mk 5 false 0 ⟨#[]⟩ none 0 [] none 0 .nil none 0 .nil) HA3'.out 0 (by omega) (.int .u8 5) rfl).put 4 (by omega) _ rfl
              have HG4 : Hid (∃ g, (some ⟨V3.heap.size, 0, none⟩ : Option Addr) = some ⟨g, 0, none⟩ ∧ wr.heap.size ≤ g ∧ g < (((al V3).setCell ⟨sb, so, none⟩ (.int .u8 5)).setCell ⟨sb, so + 4, none⟩ (.slice (some ⟨V3.heap.size, 0, none⟩) tz.length (cp V3))).heap.size ∧ ¬ Prv w.heap.size q p a' sa g ∧ ∀ k, k < tz.length → (((al V3).setCell ⟨sb, so, none⟩ (.int .u8 5)).setCell ⟨sb, so + 4, none⟩ (.slice (some ⟨V3.heap.size, 0, none⟩) tz.length (cp V3))).cell? ⟨g, k, none⟩ = some (.int .u8 (tz.getD k 0))) := by
                obtain ⟨x1, x2, x3⟩ := HAl.out V3
                have hv : wr.heap.size ≤ V3.heap.size := Nat.le_trans HM3.out.size (Nat.le_trans (Nat.le_refl _) HG3.out.size)
                refine ⟨V3.heap.size, rfl, hv, ?_, ((HM3.out.on (below_drewN (Below.refl _ _) 1)).read HR3.out HG3.out).sta.fresh _ (Nat.le_refl _), fun k hk => ?_⟩
                · rw [World.size_setCell, World.size_setCell, x2]; omega
                · rw [World.cell?_setCell_far _ _ _ _ (by show sb ≠ V3.heap.size; omega), World.cell?_setCell_far _ _ _ _ (by show sb ≠ V3.heap.size; omega)]; exact x3 k hk
              go_roundw
              case rel => exact ⟨st, sa, sc, N, _, _, HM4.out.sta, HMd4.out _ HM4.out _ _ HA4.out (.inr HG4.out)⟩
              case measure =>
                have h1 : stands (((al V3).setCell ⟨sb, so, none⟩ (.int .u8 5)).setCell ⟨sb, so + 4, none⟩ (.slice (some ⟨V3.heap.size, 0, none⟩) tz.length (cp V3))) p = ti := stands_is HM4.out.sta.rd
                have h2 := HMs.out
                have h3 := HJ.out
                have h4 := HX4.out
                omega
            · go_simp
              refine hK.out _ _ ?_ (fun _hS => ?_)
              · (first | (refine ⟨?_, ?_⟩ <;> assumption) | go_keep)
              clear hK K
              try simp only [Act.put, List.setIfInBounds_toArray, List.set_cons_zero, List.set_cons_succ]
              refine wpAnyH_ready (rs := [7]) (by kernel_rfl) (by simp) ?_
              refine AllReadyH.cons (o := { dst := some 94, op := Op.convert 9 23 (Operand.tmp 93), type := 23, pos := "read.go:41", after := #[{ on := 6, ground := Ground.data }], guard := none }) rfl (fun K hK => ?_) (AllReadyH.nil)
              go_simp
              refine hK.out _ _ ?_ (fun _hS => ?_)
              · (first | (refine ⟨?_, ?_⟩ <;> assumption) | go_keep)
              clear hK K
              try simp only [Act.put, List.setIfInBounds_toArray, List.set_cons_zero, List.set_cons_succ]
              refine wpAnyH_take (i := 11) (oi := { dst := some 97, op := Op.nilCheck (Operand.tmp 88), type := 0, pos := "read.go:41", after := #[{ on := 1, ground := Ground.data }, { on := 0, ground := Ground.phase }, { on := 1, ground := Ground.phase }, { on := 2, ground := Ground.phase }, { on := 3, ground := Ground.phase }, { on := 4, ground := Ground.phase }, { on := 5, ground := Ground.phase }, { on := 6, ground := Ground.phase }, { on := 7, ground := Ground.phase }, { on := 8, ground := Ground.phase }, { on := 9, ground := Ground.phase }, { on := 10, ground := Ground.phase }], guard := none }) (v := ?v11x11) rfl (by kernel_rfl) (by kernel_rfl) (by kernel_rfl) (fun _ _ _ h => h) (Or.inl ⟨by rfl, ?hy11x11⟩) (by assumption) ?rest11x11
              case hy11x11 => (intro w hSw; (try dsimp only at hSw); (first | (go_simp; with_reducible rfl) | go_simp))
              try simp only [Act.put, List.setIfInBounds_toArray, List.set_cons_zero, List.set_cons_succ]
              refine wpAnyH_take (i := 12) (oi := { dst := some 98, op := Op.fieldAddr 27 (Operand.tmp 97) 4, type := 0, pos := "read.go:41", after := #[{ on := 11, ground := Ground.data }, { on := 0, ground := Ground.phase }, { on := 1, ground := Ground.phase }, { on := 2, ground := Ground.phase }, { on := 3, ground := Ground.phase }, { on := 4, ground := Ground.phase }, { on := 5, ground := Ground.phase }, { on := 6, ground := Ground.phase }, { on := 7, ground := Ground.phase }, { on := 8, ground := Ground.phase }, { on := 9, ground := Ground.phase }, { on := 10, ground := Ground.phase }], guard := none }) (v := ?v12x12) rfl (by kernel_rfl) (by kernel_rfl) (by kernel_rfl) (fun _ _ _ h => h) (Or.inl ⟨by rfl, ?hy12x12⟩) (by assumption) ?rest12x12
              case hy12x12 => (intro w hSw; (try dsimp only at hSw); (first | (go_simp; with_reducible rfl) | go_simp))
              try simp only [Act.put, List.setIfInBounds_toArray, List.set_cons_zero, List.set_cons_succ]
              refine wpAnyH_ready (rs := [13]) (by kernel_rfl) (by simp) ?_
              refine AllReadyH.cons (o := { dst := none, op := Op.store 23 (Operand.tmp 98) (Operand.tmp 94), type := 0, pos := "read.go:41", after := #[{ on := 12, ground := Ground.data }, { on := 7, ground := Ground.data }, { on := 10, ground := Ground.chain }, { on := 0, ground := Ground.phase }, { on := 1, ground := Ground.phase }, { on := 2, ground := Ground.phase }, { on := 3, ground := Ground.phase }, { on := 4, ground := Ground.phase }, { on := 5, ground := Ground.phase }, { on := 6, ground := Ground.phase }, { on := 7, ground := Ground.phase }, { on := 8, ground := Ground.phase }, { on := 9, ground := Ground.phase }, { on := 10, ground := Ground.phase }], guard := none }) rfl (fun K hK => ?_) (AllReadyH.nil)
              go_simp
              refine hK.out _ _ ?_ (fun _hS => ?_)
              · (first | (refine ⟨?_, ?_⟩ <;> assumption) | go_keep)
              clear hK K
              try simp only [Act.put, List.setIfInBounds_toArray, List.set_cons_zero, List.set_cons_succ]
              refine wpAnyH_done (by kernel_rfl) ?_ _
              refine NoPanic.normal ?_
              go_wp2
              have HM4 := hide (((((HM3.out.on (below_drewN (Below.refl _ _) 1)).read HR3.out HG3.out).set 0 (by omega) (.int .u8 5)).on (HAl.out (V3.setCell ⟨sb, so, none⟩ (.int .u8 5))).1).set 4 (by omega) (.slice (some ⟨V3.heap.size, 0, none⟩) tz.length (cp (V3.setCell ⟨sb, so, none⟩ (.int .u8 5)))))
              have HA4 : Hid (At ((al (V3.setCell ⟨sb, so, none⟩ (.int .u8 5))).setCell ⟨sb, so + 4, none⟩ (.slice (some ⟨V3.heap.size, 0, none⟩) tz.length (cp (V3.setCell ⟨sb, so, none⟩ (.int .u8 5))))) (sb, so) (.mk 5 false 0 ⟨#[]⟩ (some ⟨V3.heap.size, 0, none⟩) (cp (V3.setCell ⟨sb, so, none⟩ (.int .u8 5))) tz none 0 .nil none 0 .nil)) := (At.on (W' := al (V3.setCell ⟨sb, so, none⟩ (.int .u8 5))) (At.put (W := V3) (v' := .mk 5 false 0 ⟨#[]⟩ none 0 [] none 0 .nil none 0 .nil) HA3.out 0 (by omega) (.int .u8 5) rfl) (fun j hj => (HAl.out (V3.setCell ⟨sb, so, none⟩ (.int .u8 5))).1.cell (p := ⟨sb, so + j, none⟩) (by have h9 := HM3.out.size; have h8 : V2.heap.size ≤ V3.heap.size := HG3.out.size; rw [World.size_setCell]; show sb < _; omega))).put 4 (by omega) _ rfl
              have HG4 : Hid (∃ g, (some ⟨V3.heap.size, 0, none⟩ : Option Addr) = some ⟨g, 0, none⟩ ∧ wr.heap.size ≤ g ∧ g < ((al (V3.setCell ⟨sb, so, none⟩ (.int .u8 5))).setCell ⟨sb, so + 4, none⟩ (.slice (some ⟨V3.heap.size, 0, none⟩) tz.length (cp (V3.setCell ⟨sb, so, none⟩ (.int .u8 5))))).heap.size ∧ ¬ Prv w.heap.size q p a' sa g ∧ ∀ k, k < tz.length → ((al (V3.setCell ⟨sb, so, none⟩ (.int .u8 5))).setCell ⟨sb, so + 4, none⟩ (.slice (some ⟨V3.heap.size, 0, none⟩) tz.length (cp (V3.setCell ⟨sb, so, none⟩ (.int .u8 5))))).cell? ⟨g, k, none⟩ = some (.int .u8 (tz.getD k 0))) := by
                obtain ⟨x1, x2, x3⟩ := HAl.out (V3.setCell ⟨sb, so, none⟩ (.int .u8 5))
                rw [World.size_setCell] at x2 x3
                have hv : wr.heap.size ≤ V3.heap.size := Nat.le_trans HM3.out.size (Nat.le_trans (Nat.le_refl _) HG3.out.size)
                refine ⟨V3.heap.size, rfl, hv, ?_, ((HM3.out.on (below_drewN (Below.refl _ _) 1)).read HR3.out HG3.out).sta.fresh _ (Nat.le_refl _), fun k hk => ?_⟩
                · rw [World.size_setCell, x2]; omega
                · rw [World.cell?_setCell_far _ _ _ _ (by show sb ≠ V3.heap.size; omega)]; exact x3 k hk
              go_roundw
              case rel => exact ⟨st, sa, sc, N, _, _, HM4.out.sta, HMd4.out _ HM4.out _ _ HA4.out (.inr HG4.out)⟩
              case measure =>
                have h1 : stands ((al (V3.setCell ⟨sb, so, none⟩ (.int .u8 5))).setCell ⟨sb, so + 4, none⟩ (.slice (some ⟨V3.heap.size, 0, none⟩) tz.length (cp (V3.setCell ⟨sb, so, none⟩ (.int .u8 5))))) p = ti := stands_is HM4.out.sta.rd
                have h2 := HMs.out
                have h3 := HJ.out
                have h4 := HX4.out
                omega
          · rcases hnm : nm bs (j + 1) 0 with ⟨m, l, er⟩
            have hfew := HM3.out.sta.few
            have hmf : ∀ (fn : Fn) (first cap : Array Value) (w : World), (Instr.makeFunc fn first cap).run Try.prog w = .ok (.func fn first cap) w := fun _ _ _ _ => rfl
            by_cases hm : m ≤ 512 - N
            · have HCo := hide (count_ok q p sa st.length sc N (j + 1) m l er a' bs V2 HM3.out.sta.dr HM3.out.sta.rd HM3.out.sta.qp HM3.out.sta.aq (by omega) hnm hm)
              have HNm := hide hnm
              have HX4 : Hid (j + 1 ≤ (tk bs (j + 1) er l).1) := tk_up bs (j + 1) _ _ (by have := HJ.out; omega)
              clear hnm
              go_wp2_with fail
              refine HCo.out.mono ?_
              rintro r V3 ⟨rfl, hd3, hr3, hk3⟩
              have HM5 := hide (HM3.out.count (by omega) hd3 hr3 hk3)
              have hblk : ∀ k, k < V2.heap.size → k ≠ p → k ≠ q → V3.heap[k]? = V2.heap[k]? := fun k h1 h2 h3 => hk3.block k h1 (fun e => by rcases e with e | e; exact h2 e; exact h3 e)
              have hbv : bx < V2.heap.size := cell_lt b0
              have hsv : sb < V2.heap.size := cell_lt v0
              have hb5 := hblk bx hbv hbp hbq
              have hs5 := hblk sb hsv hpb hqb
              have hsz3 : V2.heap.size ≤ V3.heap.size := hk3.size
              have HZ5 : Hid (At V3 (sb, so) zeroT) := HZ2.out.on (fun j hj => by simp only [World.cell?]; rw [hs5])
              have b5 : V3.cell? ⟨bx, 0, none⟩ = some (.pointer (some ⟨sb, so, none⟩)) := by
                have := b0
                simp only [World.cell?] at this ⊢
                rw [hb5]; exact this
              clear hd3 hr3 hk3 hblk hb5 hs5 k0 k1 k2 v0 v1 v2 v3 v4 v5 v6 f0 f1 f2 f3 f4 f5 f6
              obtain ⟨v0, v1, v2, v3, v4, v5, v6⟩ := HZ5.out.cells
              simp only [TL.list, FL.list, List.length_nil] at v0 v1 v2 v3 v4 v5 v6
              have f0 : V3.frozen? ⟨sb, so, none⟩ = false := (HM5.out.rng _ _ (SC.val (sn, (sb, so)) 0 (by omega))).2.2.2
              have f5 : V3.frozen? ⟨sb, so + 5, none⟩ = false := (HM5.out.rng _ _ (SC.val (sn, (sb, so)) 5 (by omega))).2.2.2
              obtain ⟨k0, k1, k2⟩ := HM5.out.sta.dr.cells
              obtain ⟨mk, hmk, hmc⟩ := make_vals m (by omega)
              have HMk := hide hmc
              clear hmc
              have fz : ∀ {W W' : World} {o : Nat}, W'.heap[sb]? = W.heap[sb]? → W.frozen? ⟨sb, o, none⟩ = false → W'.frozen? ⟨sb, o, none⟩ = false := fun h1 h2 => by simp only [World.frozen?] at h2 ⊢; rw [h1]; exact h2
              have c1 := (HMk.out V3.drew).1
              have n0 : (mk V3.drew).cell? ⟨bx, 0, none⟩ = some (.pointer (some ⟨sb, so, none⟩)) := (c1.cell (p := ⟨bx, 0, none⟩) (by show bx < V3.heap.size; omega)).trans b5
              have n1 : (mk V3.drew).cell? ⟨sb, so, none⟩ = some (.int .u8 0) := (c1.cell (p := ⟨sb, so, none⟩) (by show sb < V3.heap.size; omega)).trans v0
              have n2 : (mk V3.drew).cell? ⟨sb, so + 5, none⟩ = some (.slice none 0 0) := (c1.cell (p := ⟨sb, so + 5, none⟩) (by show sb < V3.heap.size; omega)).trans v5
              have n3 : (mk V3.drew).frozen? ⟨sb, so, none⟩ = false := fz (W := V3) (c1.block sb (by show sb < V3.heap.size; omega)) f0
              have n4 : (mk V3.drew).frozen? ⟨sb, so + 5, none⟩ = false := fz (W := V3) (c1.block sb (by show sb < V3.heap.size; omega)) f5
              have c2 := (HMk.out (V3.setCell ⟨sb, so, none⟩ (.int .u8 6)).drew).1
              have hsd : (V3.setCell ⟨sb, so, none⟩ (.int .u8 6)).drew.heap.size = V3.heap.size := World.size_setCell _ _ _
              rw [hsd] at c2
              have l0 : (mk (V3.setCell ⟨sb, so, none⟩ (.int .u8 6)).drew).cell? ⟨bx, 0, none⟩ = some (.pointer (some ⟨sb, so, none⟩)) := (c2.cell (p := ⟨bx, 0, none⟩) (by show bx < V3.heap.size; omega)).trans ((World.cell?_setCell_far _ _ _ _ (by simpa using hsb')).trans b5)
              have l2 : (mk (V3.setCell ⟨sb, so, none⟩ (.int .u8 6)).drew).cell? ⟨sb, so + 5, none⟩ = some (.slice none 0 0) := (c2.cell (p := ⟨sb, so + 5, none⟩) (by show sb < V3.heap.size; omega)).trans ((World.cell?_setCell_other _ _ _ _ (by intro e; have := congrArg Addr.off e; simp at this)).trans v5)
              have l4 : (mk (V3.setCell ⟨sb, so, none⟩ (.int .u8 6)).drew).frozen? ⟨sb, so + 5, none⟩ = false := fz (W := (V3.setCell ⟨sb, so, none⟩ (.int .u8 6)).drew) (c2.block sb (by show sb < V3.heap.size; omega)) ((World.frozen?_setCell _ _ _ _).trans f5)
              have HC1 := hide c1
              have HC2 := hide c2
              have HHd := hide hsd
              clear c1 c2 hsd fz
              have g0 : V3.drew.cell? ⟨bx, 0, none⟩ = some (.pointer (some ⟨sb, so, none⟩)) := b5
              have HEnd : Hid (∀ Wf : World, Md w.heap.size n₁ w q p a' bs wr (sn, (sb, so)) st sa sc (N + m) (bk y) Wf (tk bs (j + 1) er l).1 (tk bs (j + 1) er l).2.1 → V3.heap.size < Wf.heap.size → (∀ j, j < m → At (Wf) (V3.heap.size, j * 7) zeroT) → (∀ u, Wf.frozen? ⟨V3.heap.size, u, none⟩ = false) → (∀ t : TL, t.list.length = m → At Wf (sb, so) (.mk 6 false 0 ⟨#[]⟩ none 0 [] (some ⟨V3.heap.size, 0, none⟩) m t none 0 .nil)) → Wf.cell? ⟨bx, 0, none⟩ = some (.pointer (some ⟨sb, so, none⟩)) → Calls Try.prog 32 #[.pointer (some ⟨q, 0, none⟩), .int .i64 (m : Int), .func (.func 33) #[] #[.pointer (some ⟨bx, 0, none⟩)]] Wf fun e W' => e = .returned (.tuple #[]) ∧ Inv w.heap.size n₁ w q p a' bs (w.heap.size + 1) W' ∧ stands W' p = (tk bs (j + 1) er l).1) := fun Wf h1 h2 h3 h4 h5 h6 =>
                listL_end HTg.out HT.out m l er V3.heap.size bx h1 HNm.out (by omega) hfew.1 (by have := HM5.out.size; omega) h2 (HM5.out.sta.fresh _ (Nat.le_refl _)) h3 h4 h5 h6 HPx.out
              go_wp2
              go_region_held3 (fun W => W.cell? ⟨bx, 0, none⟩ = some (.pointer (some ⟨sb, so, none⟩))) ((first | assumption | go_keep)) ((first | (go_at_call 30)))
              · have HMf := hide ((((HM5.out.on (below_drewN (Below.refl _ _) 1)).on HC1.out).set 0 (by omega) (.int .u8 6)).set 5 (by omega) (.slice (some ⟨V3.heap.size, 0, none⟩) m m))
                have HSf : Hid (V3.heap.size < (((mk V3.drew).setCell ⟨sb, so, none⟩ (.int .u8 6)).setCell ⟨sb, so + 5, none⟩ (.slice (some ⟨V3.heap.size, 0, none⟩) m m)).heap.size) := by
                  rw [Hid, World.size_setCell, World.size_setCell]
                  have h9 : (mk V3.drew).heap.size = V3.heap.size + 1 := (HMk.out V3.drew).2.1
                  omega
                have HZf : Hid (∀ j, j < m → At (((mk V3.drew).setCell ⟨sb, so, none⟩ (.int .u8 6)).setCell ⟨sb, so + 5, none⟩ (.slice (some ⟨V3.heap.size, 0, none⟩) m m)) (V3.heap.size, j * 7) zeroT) := by
                  intro j hj
                  exact ((HMk.out V3.drew).2.2.1 j hj).on (fun u hu => by rw [World.cell?_setCell_far _ _ _ _ (by show sb ≠ V3.heap.size; omega), World.cell?_setCell_far _ _ _ _ (by show sb ≠ V3.heap.size; omega)])
                have HFf : Hid (∀ u, (((mk V3.drew).setCell ⟨sb, so, none⟩ (.int .u8 6)).setCell ⟨sb, so + 5, none⟩ (.slice (some ⟨V3.heap.size, 0, none⟩) m m)).frozen? ⟨V3.heap.size, u, none⟩ = false) := by
                  intro u
                  rw [World.frozen?_setCell, World.frozen?_setCell]
                  exact (HMk.out V3.drew).2.2.2 u
                have HAf : Hid (∀ t : TL, t.list.length = m → At (((mk V3.drew).setCell ⟨sb, so, none⟩ (.int .u8 6)).setCell ⟨sb, so + 5, none⟩ (.slice (some ⟨V3.heap.size, 0, none⟩) m m)) (sb, so) (.mk 6 false 0 ⟨#[]⟩ none 0 [] (some ⟨V3.heap.size, 0, none⟩) m t none 0 .nil)) := by
                  intro t ht
                  have x1 : At (mk V3.drew) (sb, so) zeroT := HZ5.out.on (fun u hu => HC1.out.cell (p := ⟨sb, so + u, none⟩) (by show sb < V3.heap.size; omega))
                  exact (At.put (v' := (.mk 6 false 0 ⟨#[]⟩ none 0 [] none 0 .nil none 0 .nil)) x1 0 (by omega) (.int .u8 6) rfl).put 5 (by omega) (.slice (some ⟨V3.heap.size, 0, none⟩) m m) (by simp [T.cells, ht])
                have HBf : Hid ((((mk V3.drew).setCell ⟨sb, so, none⟩ (.int .u8 6)).setCell ⟨sb, so + 5, none⟩ (.slice (some ⟨V3.heap.size, 0, none⟩) m m)).cell? ⟨bx, 0, none⟩ = some (.pointer (some ⟨sb, so, none⟩))) := by
                  rw [Hid, World.cell?_setCell_far _ _ _ _ (by simpa using hsb'), World.cell?_setCell_far _ _ _ _ (by simpa using hsb')]; exact n0
                have HCf := hide (HEnd.out _ HMf.out HSf.out HZf.out HFf.out HAf.out HBf.out)
                clear HMf HSf HZf HFf HAf HBf
                go_wp2_with fail
                refine HCf.out.mono ?_
                rintro r V9 ⟨rfl, hinv, hsta⟩
                have HIn := hide hinv
                have HSa := hide hsta
                clear hinv hsta
                go_wp2
                go_roundw
                case rel => exact HIn.out
                case measure =>
                  have h1 := HSa.out
                  have h2 := HMs.out
                  have h3 := HJ.out
                  have h4 := HX4.out
                  omega
              · have HMf := hide ((((HM5.out.set 0 (by omega) (.int .u8 6)).on (below_drewN (Below.refl _ _) 1)).on (show Below (V3.setCell ⟨sb, so, none⟩ (.int .u8 6)).drew.heap.size (V3.setCell ⟨sb, so, none⟩ (.int .u8 6)).drew (mk (V3.setCell ⟨sb, so, none⟩ (.int .u8 6)).drew) from (HMk.out (V3.setCell ⟨sb, so, none⟩ (.int .u8 6)).drew).1)).set 5 (by omega) (.slice (some ⟨V3.heap.size, 0, none⟩) m m))
                have HSf : Hid (V3.heap.size < ((mk (V3.setCell ⟨sb, so, none⟩ (.int .u8 6)).drew).setCell ⟨sb, so + 5, none⟩ (.slice (some ⟨V3.heap.size, 0, none⟩) m m)).heap.size) := by
                  rw [Hid, World.size_setCell]
                  have h9 := (HMk.out (V3.setCell ⟨sb, so, none⟩ (.int .u8 6)).drew).2.1
                  rw [HHd.out] at h9
                  omega
                have HZf : Hid (∀ j, j < m → At ((mk (V3.setCell ⟨sb, so, none⟩ (.int .u8 6)).drew).setCell ⟨sb, so + 5, none⟩ (.slice (some ⟨V3.heap.size, 0, none⟩) m m)) (V3.heap.size, j * 7) zeroT) := by
                  intro j hj
                  have x := (HMk.out (V3.setCell ⟨sb, so, none⟩ (.int .u8 6)).drew).2.2.1 j hj
                  rw [HHd.out] at x
                  exact x.on (fun u hu => by rw [World.cell?_setCell_far _ _ _ _ (by show sb ≠ V3.heap.size; omega)])
                have HFf : Hid (∀ u, ((mk (V3.setCell ⟨sb, so, none⟩ (.int .u8 6)).drew).setCell ⟨sb, so + 5, none⟩ (.slice (some ⟨V3.heap.size, 0, none⟩) m m)).frozen? ⟨V3.heap.size, u, none⟩ = false) := by
                  intro u
                  rw [World.frozen?_setCell]
                  have x := (HMk.out (V3.setCell ⟨sb, so, none⟩ (.int .u8 6)).drew).2.2.2 u
                  rw [HHd.out] at x
                  exact x
                have HAf : Hid (∀ t : TL, t.list.length = m → At ((mk (V3.setCell ⟨sb, so, none⟩ (.int .u8 6)).drew).setCell ⟨sb, so + 5, none⟩ (.slice (some ⟨V3.heap.size, 0, none⟩) m m)) (sb, so) (.mk 6 false 0 ⟨#[]⟩ none 0 [] (some ⟨V3.heap.size, 0, none⟩) m t none 0 .nil)) := by
                  intro t ht
                  have x0 : At (V3.setCell ⟨sb, so, none⟩ (.int .u8 6)).drew (sb, so) (.mk 6 false 0 ⟨#[]⟩ none 0 [] none 0 .nil none 0 .nil) := At.put (W := V3) (v' := (.mk 6 false 0 ⟨#[]⟩ none 0 [] none 0 .nil none 0 .nil)) HZ5.out 0 (by omega) (.int .u8 6) rfl
                  have x1 : At (mk (V3.setCell ⟨sb, so, none⟩ (.int .u8 6)).drew) (sb, so) (.mk 6 false 0 ⟨#[]⟩ none 0 [] none 0 .nil none 0 .nil) := x0.on (fun u hu => HC2.out.cell (p := ⟨sb, so + u, none⟩) (by show sb < V3.heap.size; omega))
                  exact x1.put 5 (by omega) (.slice (some ⟨V3.heap.size, 0, none⟩) m m) (by simp [T.cells, ht])
                have HBf : Hid (((mk (V3.setCell ⟨sb, so, none⟩ (.int .u8 6)).drew).setCell ⟨sb, so + 5, none⟩ (.slice (some ⟨V3.heap.size, 0, none⟩) m m)).cell? ⟨bx, 0, none⟩ = some (.pointer (some ⟨sb, so, none⟩))) := by
                  rw [Hid, World.cell?_setCell_far _ _ _ _ (by simpa using hsb')]; exact l0
                have HCf := hide (HEnd.out _ HMf.out HSf.out HZf.out HFf.out HAf.out HBf.out)
                clear HMf HSf HZf HFf HAf HBf
                go_wp2_with fail
                refine HCf.out.mono ?_
                rintro r V9 ⟨rfl, hinv, hsta⟩
                have HIn := hide hinv
                have HSa := hide hsta
                clear hinv hsta
                go_wp2
                go_roundw
                case rel => exact HIn.out
                case measure =>
                  have h1 := HSa.out
                  have h2 := HMs.out
                  have h3 := HJ.out
                  have h4 := HX4.out
                  omega
            · have hbad : 512 - N < (nm bs (j + 1) 0).1 := by rw [hnm]; simp only []; omega
              have HCn := hide (count_no q p sa st.length sc N (j + 1) a' bs V2 HM3.out.sta.dr HM3.out.sta.rd HM3.out.sta.qp (by omega) hbad)
              have HNo := hide (many_no HTg.out (.inl HT.out) (by omega) hbad)
              clear hnm hbad
              go_wp2_with fail
              refine HCn.out.mono ?_
              rintro r V3 ⟨rfl, hk3⟩
              have HK3 := hide hk3
              clear hk3
              go_wp2
              go_step3
              have hlo := HM3.out.sta.lo
              have hn9 := HM3.out.sta.n1
              have hbel := HM3.out.sta.below
              exact ⟨rfl, ⟨rfl, rfl, rfl⟩, ⟨HK3.out.os.trans hbel.os, HK3.out.tape.trans hbel.tape, HK3.out.output.trans hbel.output, Nat.le_trans hbel.size HK3.out.size, fun k hk => (HK3.out.block k (by omega) (fun e => by omega)).trans (hbel.block k hk)⟩, HNo.out.noc, (HK3.out.block _ (lt_of_block HM3.out.sta.rbx) (fun e => by rcases e with e | e; exact HM3.out.sta.rbn.2.1 e; exact HM3.out.sta.rbn.1 e)).trans HM3.out.sta.rbx⟩
          · rcases hnm : nm bs (j + 1) 0 with ⟨m, l, er⟩
            have hfew := HM3.out.sta.few
            have hmf : ∀ (fn : Fn) (first cap : Array Value) (w : World), (Instr.makeFunc fn first cap).run Try.prog w = .ok (.func fn first cap) w := fun _ _ _ _ => rfl
            by_cases hm : m ≤ 512 - N
            · have HCo := hide (count_ok q p sa st.length sc N (j + 1) m l er a' bs V2 HM3.out.sta.dr HM3.out.sta.rd HM3.out.sta.qp HM3.out.sta.aq (by omega) hnm hm)
              have HNm := hide hnm
              have HX4 : Hid (j + 1 ≤ (tk bs (j + 1) er l).1) := tk_up bs (j + 1) _ _ (by have := HJ.out; omega)
              clear hnm
              go_wp2_with fail
              refine HCo.out.mono ?_
              rintro r V3 ⟨rfl, hd3, hr3, hk3⟩
              have HM5 := hide (HM3.out.count (by omega) hd3 hr3 hk3)
              have hblk : ∀ k, k < V2.heap.size → k ≠ p → k ≠ q → V3.heap[k]? = V2.heap[k]? := fun k h1 h2 h3 => hk3.block k h1 (fun e => by rcases e with e | e; exact h2 e; exact h3 e)
              have hbv : bx < V2.heap.size := cell_lt b0
              have hsv : sb < V2.heap.size := cell_lt v0
              have hb5 := hblk bx hbv hbp hbq
              have hs5 := hblk sb hsv hpb hqb
              have hsz3 : V2.heap.size ≤ V3.heap.size := hk3.size
              have HZ5 : Hid (At V3 (sb, so) zeroT) := HZ2.out.on (fun j hj => by simp only [World.cell?]; rw [hs5])
              have b5 : V3.cell? ⟨bx, 0, none⟩ = some (.pointer (some ⟨sb, so, none⟩)) := by
                have := b0
                simp only [World.cell?] at this ⊢
                rw [hb5]; exact this
              clear hd3 hr3 hk3 hblk hb5 hs5 k0 k1 k2 v0 v1 v2 v3 v4 v5 v6 f0 f1 f2 f3 f4 f5 f6
              obtain ⟨v0, v1, v2, v3, v4, v5, v6⟩ := HZ5.out.cells
              simp only [TL.list, FL.list, List.length_nil] at v0 v1 v2 v3 v4 v5 v6
              have f0 : V3.frozen? ⟨sb, so, none⟩ = false := (HM5.out.rng _ _ (SC.val (sn, (sb, so)) 0 (by omega))).2.2.2
              have f5 : V3.frozen? ⟨sb, so + 6, none⟩ = false := (HM5.out.rng _ _ (SC.val (sn, (sb, so)) 6 (by omega))).2.2.2
              obtain ⟨k0, k1, k2⟩ := HM5.out.sta.dr.cells
              obtain ⟨mk, hmk, hmc⟩ := make_flds m (by omega)
              have HMk := hide hmc
              clear hmc
              have fz : ∀ {W W' : World} {o : Nat}, W'.heap[sb]? = W.heap[sb]? → W.frozen? ⟨sb, o, none⟩ = false → W'.frozen? ⟨sb, o, none⟩ = false := fun h1 h2 => by simp only [World.frozen?] at h2 ⊢; rw [h1]; exact h2
              have c1 := (HMk.out V3.drew).1
              have n0 : (mk V3.drew).cell? ⟨bx, 0, none⟩ = some (.pointer (some ⟨sb, so, none⟩)) := (c1.cell (p := ⟨bx, 0, none⟩) (by show bx < V3.heap.size; omega)).trans b5
              have n1 : (mk V3.drew).cell? ⟨sb, so, none⟩ = some (.int .u8 0) := (c1.cell (p := ⟨sb, so, none⟩) (by show sb < V3.heap.size; omega)).trans v0
              have n2 : (mk V3.drew).cell? ⟨sb, so + 6, none⟩ = some (.slice none 0 0) := (c1.cell (p := ⟨sb, so + 6, none⟩) (by show sb < V3.heap.size; omega)).trans v6
              have n3 : (mk V3.drew).frozen? ⟨sb, so, none⟩ = false := fz (W := V3) (c1.block sb (by show sb < V3.heap.size; omega)) f0
              have n4 : (mk V3.drew).frozen? ⟨sb, so + 6, none⟩ = false := fz (W := V3) (c1.block sb (by show sb < V3.heap.size; omega)) f5
              have c2 := (HMk.out (V3.setCell ⟨sb, so, none⟩ (.int .u8 7)).drew).1
              have hsd : (V3.setCell ⟨sb, so, none⟩ (.int .u8 7)).drew.heap.size = V3.heap.size := World.size_setCell _ _ _
              rw [hsd] at c2
              have l0 : (mk (V3.setCell ⟨sb, so, none⟩ (.int .u8 7)).drew).cell? ⟨bx, 0, none⟩ = some (.pointer (some ⟨sb, so, none⟩)) := (c2.cell (p := ⟨bx, 0, none⟩) (by show bx < V3.heap.size; omega)).trans ((World.cell?_setCell_far _ _ _ _ (by simpa using hsb')).trans b5)
              have l2 : (mk (V3.setCell ⟨sb, so, none⟩ (.int .u8 7)).drew).cell? ⟨sb, so + 6, none⟩ = some (.slice none 0 0) := (c2.cell (p := ⟨sb, so + 6, none⟩) (by show sb < V3.heap.size; omega)).trans ((World.cell?_setCell_other _ _ _ _ (by intro e; have := congrArg Addr.off e; simp at this)).trans v6)
              have l4 : (mk (V3.setCell ⟨sb, so, none⟩ (.int .u8 7)).drew).frozen? ⟨sb, so + 6, none⟩ = false := fz (W := (V3.setCell ⟨sb, so, none⟩ (.int .u8 7)).drew) (c2.block sb (by show sb < V3.heap.size; omega)) ((World.frozen?_setCell _ _ _ _).trans f5)
              have HC1 := hide c1
              have HC2 := hide c2
              have HHd := hide hsd
              clear c1 c2 hsd fz
              have g0 : V3.drew.cell? ⟨bx, 0, none⟩ = some (.pointer (some ⟨sb, so, none⟩)) := b5
              have HEnd : Hid (∀ Wf : World, Md w.heap.size n₁ w q p a' bs wr (sn, (sb, so)) st sa sc (N + m) (bk y) Wf (tk bs (j + 1) er l).1 (tk bs (j + 1) er l).2.1 → V3.heap.size < Wf.heap.size → (∀ j, j < m → (Wf).cell? ⟨V3.heap.size, j * 8, none⟩ = some (.string ⟨#[]⟩) ∧ At (Wf) (V3.heap.size, j * 8 + 1) zeroT) → (∀ u, Wf.frozen? ⟨V3.heap.size, u, none⟩ = false) → (∀ t : FL, t.list.length = m → At Wf (sb, so) (.mk 7 false 0 ⟨#[]⟩ none 0 [] none 0 .nil (some ⟨V3.heap.size, 0, none⟩) m t)) → Wf.cell? ⟨bx, 0, none⟩ = some (.pointer (some ⟨sb, so, none⟩)) → Calls Try.prog 32 #[.pointer (some ⟨q, 0, none⟩), .int .i64 (m : Int), .func (.func 34) #[] #[.pointer (some ⟨bx, 0, none⟩)]] Wf fun e W' => e = .returned (.tuple #[]) ∧ Inv w.heap.size n₁ w q p a' bs (w.heap.size + 1) W' ∧ stands W' p = (tk bs (j + 1) er l).1) := fun Wf h1 h2 h3 h4 h5 h6 =>
                docF_end HTg.out HT.out m l er V3.heap.size bx h1 HNm.out (by omega) hfew.1 (by have := HM5.out.size; omega) h2 (HM5.out.sta.fresh _ (Nat.le_refl _)) h3 h4 h5 h6 HPx.out
              go_wp2
              go_region_held3 (fun W => W.cell? ⟨bx, 0, none⟩ = some (.pointer (some ⟨sb, so, none⟩))) ((first | assumption | go_keep)) ((first | (go_at_call 30)))
              · have HMf := hide ((((HM5.out.on (below_drewN (Below.refl _ _) 1)).on HC1.out).set 0 (by omega) (.int .u8 7)).set 6 (by omega) (.slice (some ⟨V3.heap.size, 0, none⟩) m m))
                have HSf : Hid (V3.heap.size < (((mk V3.drew).setCell ⟨sb, so, none⟩ (.int .u8 7)).setCell ⟨sb, so + 6, none⟩ (.slice (some ⟨V3.heap.size, 0, none⟩) m m)).heap.size) := by
                  rw [Hid, World.size_setCell, World.size_setCell]
                  have h9 : (mk V3.drew).heap.size = V3.heap.size + 1 := (HMk.out V3.drew).2.1
                  omega
                have HZf : Hid (∀ j, j < m → (((mk V3.drew).setCell ⟨sb, so, none⟩ (.int .u8 7)).setCell ⟨sb, so + 6, none⟩ (.slice (some ⟨V3.heap.size, 0, none⟩) m m)).cell? ⟨V3.heap.size, j * 8, none⟩ = some (.string ⟨#[]⟩) ∧ At (((mk V3.drew).setCell ⟨sb, so, none⟩ (.int .u8 7)).setCell ⟨sb, so + 6, none⟩ (.slice (some ⟨V3.heap.size, 0, none⟩) m m)) (V3.heap.size, j * 8 + 1) zeroT) := by
                  intro j hj
                  obtain ⟨x1, x2⟩ := (HMk.out V3.drew).2.2.1 j hj
                  exact ⟨by rw [World.cell?_setCell_far _ _ _ _ (by show sb ≠ V3.heap.size; omega), World.cell?_setCell_far _ _ _ _ (by show sb ≠ V3.heap.size; omega)]; exact x1, x2.on (fun u hu => by rw [World.cell?_setCell_far _ _ _ _ (by show sb ≠ V3.heap.size; omega), World.cell?_setCell_far _ _ _ _ (by show sb ≠ V3.heap.size; omega)])⟩
                have HFf : Hid (∀ u, (((mk V3.drew).setCell ⟨sb, so, none⟩ (.int .u8 7)).setCell ⟨sb, so + 6, none⟩ (.slice (some ⟨V3.heap.size, 0, none⟩) m m)).frozen? ⟨V3.heap.size, u, none⟩ = false) := by
                  intro u
                  rw [World.frozen?_setCell, World.frozen?_setCell]
                  exact (HMk.out V3.drew).2.2.2 u
                have HAf : Hid (∀ t : FL, t.list.length = m → At (((mk V3.drew).setCell ⟨sb, so, none⟩ (.int .u8 7)).setCell ⟨sb, so + 6, none⟩ (.slice (some ⟨V3.heap.size, 0, none⟩) m m)) (sb, so) (.mk 7 false 0 ⟨#[]⟩ none 0 [] none 0 .nil (some ⟨V3.heap.size, 0, none⟩) m t)) := by
                  intro t ht
                  have x1 : At (mk V3.drew) (sb, so) zeroT := HZ5.out.on (fun u hu => HC1.out.cell (p := ⟨sb, so + u, none⟩) (by show sb < V3.heap.size; omega))
                  exact (At.put (v' := (.mk 7 false 0 ⟨#[]⟩ none 0 [] none 0 .nil none 0 .nil)) x1 0 (by omega) (.int .u8 7) rfl).put 6 (by omega) (.slice (some ⟨V3.heap.size, 0, none⟩) m m) (by simp [T.cells, ht])
                have HBf : Hid ((((mk V3.drew).setCell ⟨sb, so, none⟩ (.int .u8 7)).setCell ⟨sb, so + 6, none⟩ (.slice (some ⟨V3.heap.size, 0, none⟩) m m)).cell? ⟨bx, 0, none⟩ = some (.pointer (some ⟨sb, so, none⟩))) := by
                  rw [Hid, World.cell?_setCell_far _ _ _ _ (by simpa using hsb'), World.cell?_setCell_far _ _ _ _ (by simpa using hsb')]; exact n0
                have HCf := hide (HEnd.out _ HMf.out HSf.out HZf.out HFf.out HAf.out HBf.out)
                clear HMf HSf HZf HFf HAf HBf
                go_wp2_with fail
                refine HCf.out.mono ?_
                rintro r V9 ⟨rfl, hinv, hsta⟩
                have HIn := hide hinv
                have HSa := hide hsta
                clear hinv hsta
                go_wp2
                go_roundw
                case rel => exact HIn.out
                case measure =>
                  have h1 := HSa.out
                  have h2 := HMs.out
                  have h3 := HJ.out
                  have h4 := HX4.out
                  omega
              · have HMf := hide ((((HM5.out.set 0 (by omega) (.int .u8 7)).on (below_drewN (Below.refl _ _) 1)).on (show Below (V3.setCell ⟨sb, so, none⟩ (.int .u8 7)).drew.heap.size (V3.setCell ⟨sb, so, none⟩ (.int .u8 7)).drew (mk (V3.setCell ⟨sb, so, none⟩ (.int .u8 7)).drew) from (HMk.out (V3.setCell ⟨sb, so, none⟩ (.int .u8 7)).drew).1)).set 6 (by omega) (.slice (some ⟨V3.heap.size, 0, none⟩) m m))
                have HSf : Hid (V3.heap.size < ((mk (V3.setCell ⟨sb, so, none⟩ (.int .u8 7)).drew).setCell ⟨sb, so + 6, none⟩ (.slice (some ⟨V3.heap.size, 0, none⟩) m m)).heap.size) := by
                  rw [Hid, World.size_setCell]
                  have h9 := (HMk.out (V3.setCell ⟨sb, so, none⟩ (.int .u8 7)).drew).2.1
                  rw [HHd.out] at h9
                  omega
                have HZf : Hid (∀ j, j < m → ((mk (V3.setCell ⟨sb, so, none⟩ (.int .u8 7)).drew).setCell ⟨sb, so + 6, none⟩ (.slice (some ⟨V3.heap.size, 0, none⟩) m m)).cell? ⟨V3.heap.size, j * 8, none⟩ = some (.string ⟨#[]⟩) ∧ At ((mk (V3.setCell ⟨sb, so, none⟩ (.int .u8 7)).drew).setCell ⟨sb, so + 6, none⟩ (.slice (some ⟨V3.heap.size, 0, none⟩) m m)) (V3.heap.size, j * 8 + 1) zeroT) := by
                  intro j hj
                  have x := (HMk.out (V3.setCell ⟨sb, so, none⟩ (.int .u8 7)).drew).2.2.1 j hj
                  rw [HHd.out] at x
                  exact ⟨by rw [World.cell?_setCell_far _ _ _ _ (by show sb ≠ V3.heap.size; omega)]; exact x.1, x.2.on (fun u hu => by rw [World.cell?_setCell_far _ _ _ _ (by show sb ≠ V3.heap.size; omega)])⟩
                have HFf : Hid (∀ u, ((mk (V3.setCell ⟨sb, so, none⟩ (.int .u8 7)).drew).setCell ⟨sb, so + 6, none⟩ (.slice (some ⟨V3.heap.size, 0, none⟩) m m)).frozen? ⟨V3.heap.size, u, none⟩ = false) := by
                  intro u
                  rw [World.frozen?_setCell]
                  have x := (HMk.out (V3.setCell ⟨sb, so, none⟩ (.int .u8 7)).drew).2.2.2 u
                  rw [HHd.out] at x
                  exact x
                have HAf : Hid (∀ t : FL, t.list.length = m → At ((mk (V3.setCell ⟨sb, so, none⟩ (.int .u8 7)).drew).setCell ⟨sb, so + 6, none⟩ (.slice (some ⟨V3.heap.size, 0, none⟩) m m)) (sb, so) (.mk 7 false 0 ⟨#[]⟩ none 0 [] none 0 .nil (some ⟨V3.heap.size, 0, none⟩) m t)) := by
                  intro t ht
                  have x0 : At (V3.setCell ⟨sb, so, none⟩ (.int .u8 7)).drew (sb, so) (.mk 7 false 0 ⟨#[]⟩ none 0 [] none 0 .nil none 0 .nil) := At.put (W := V3) (v' := (.mk 7 false 0 ⟨#[]⟩ none 0 [] none 0 .nil none 0 .nil)) HZ5.out 0 (by omega) (.int .u8 7) rfl
                  have x1 : At (mk (V3.setCell ⟨sb, so, none⟩ (.int .u8 7)).drew) (sb, so) (.mk 7 false 0 ⟨#[]⟩ none 0 [] none 0 .nil none 0 .nil) := x0.on (fun u hu => HC2.out.cell (p := ⟨sb, so + u, none⟩) (by show sb < V3.heap.size; omega))
                  exact x1.put 6 (by omega) (.slice (some ⟨V3.heap.size, 0, none⟩) m m) (by simp [T.cells, ht])
                have HBf : Hid (((mk (V3.setCell ⟨sb, so, none⟩ (.int .u8 7)).drew).setCell ⟨sb, so + 6, none⟩ (.slice (some ⟨V3.heap.size, 0, none⟩) m m)).cell? ⟨bx, 0, none⟩ = some (.pointer (some ⟨sb, so, none⟩))) := by
                  rw [Hid, World.cell?_setCell_far _ _ _ _ (by simpa using hsb')]; exact l0
                have HCf := hide (HEnd.out _ HMf.out HSf.out HZf.out HFf.out HAf.out HBf.out)
                clear HMf HSf HZf HFf HAf HBf
                go_wp2_with fail
                refine HCf.out.mono ?_
                rintro r V9 ⟨rfl, hinv, hsta⟩
                have HIn := hide hinv
                have HSa := hide hsta
                clear hinv hsta
                go_wp2
                go_roundw
                case rel => exact HIn.out
                case measure =>
                  have h1 := HSa.out
                  have h2 := HMs.out
                  have h3 := HJ.out
                  have h4 := HX4.out
                  omega
            · have hbad : 512 - N < (nm bs (j + 1) 0).1 := by rw [hnm]; simp only []; omega
              have HCn := hide (count_no q p sa st.length sc N (j + 1) a' bs V2 HM3.out.sta.dr HM3.out.sta.rd HM3.out.sta.qp (by omega) hbad)
              have HNo := hide (many_no HTg.out (.inr HT.out) (by omega) hbad)
              clear hnm hbad
              go_wp2_with fail
              refine HCn.out.mono ?_
              rintro r V3 ⟨rfl, hk3⟩
              have HK3 := hide hk3
              clear hk3
              go_wp2
              go_step3
              have hlo := HM3.out.sta.lo
              have hn9 := HM3.out.sta.n1
              have hbel := HM3.out.sta.below
              exact ⟨rfl, ⟨rfl, rfl, rfl⟩, ⟨HK3.out.os.trans hbel.os, HK3.out.tape.trans hbel.tape, HK3.out.output.trans hbel.output, Nat.le_trans hbel.size HK3.out.size, fun k hk => (HK3.out.block k (by omega) (fun e => by omega)).trans (hbel.block k hk)⟩, HNo.out.noc, (HK3.out.block _ (lt_of_block HM3.out.sta.rbx) (fun e => by rcases e with e | e; exact HM3.out.sta.rbn.2.1 e; exact HM3.out.sta.rbn.1 e)).trans HM3.out.sta.rbx⟩
        · have hno := no_tag HMd.out HBy.out HLt.out (by rw [HTa.out]; exact hb8)
          have HNo := hide hno
          have d1 : ((b : Int) == 1) = false := by simp; omega
          have d2 : ((b : Int) == 2) = false := by simp; omega
          have d3 : ((b : Int) == 3) = false := by simp; omega
          have d4 : ((b : Int) == 4) = false := by simp; omega
          have d5 : ((b : Int) == 5) = false := by simp; omega
          have d6 : ((b : Int) == 6) = false := by simp; omega
          have d7 : ((b : Int) == 7) = false := by simp; omega
          have d8 : ((b : Int) == 8) = false := by simp; omega
          clear hno hb8 HTa
          go_wp2
          go_step3
          exact ⟨rfl, ⟨rfl, rfl, rfl⟩, HM2.out.sta.below, HNo.out.noc, HM2.out.sta.rbx⟩
    · have hle : decide ((8192 : Int) < (n : Int)) = true := by simp; omega
      have hlt : (8192 : Int) < (n : Int) := by omega
      go_wp2
      go_step3
      exact ⟨rfl, ⟨rfl, rfl, rfl⟩, HB1.out.mono (by omega), fun v0 _ _ _ h => by have := HL.out; omega, HRB.out⟩
  case pass =>
    rintro ⟨tmps, defers⟩ w' ⟨⟨hdf, hsz, h4⟩, hb, hno, hbx⟩
    simp only [] at hdf hsz h4
    subst hdf
    have hB : Box7 w' w.heap.size (.int .u8 0) (.bool false) (.int .i64 0) (.string ⟨#[]⟩) (.slice none 0 0) (.slice none 0 0) (.slice none 0 0) := hbx
    obtain ⟨c0, c1, c2, c3, c4, c5, c6⟩ := hB.cells
    have fr := hB.free
    have HB := hide hb
    have HBx := hide hB
    have HNo := hide hno
    clear HB1 HRB HR HL HBy HQ hb hbx hB hno
    have h5 : tmps[4]'(by omega) = .pointer (some ⟨w.heap.size, 0, none⟩) := by rw [Array.getElem?_eq_getElem (by omega)] at h4; simpa using h4
    go_wp2
    have HBz := hide (HBx.out.set7 (.int .u8 0) (.bool false) (.int .i64 0) (.string ⟨#[]⟩) (.slice none 0 0) (.slice none 0 0) (.slice none 0 0))
    have HGz := hide (grown_set7 w' w.heap.size (.int .u8 0) (.bool false) (.int .i64 0) (.string ⟨#[]⟩) (.slice none 0 0) (.slice none 0 0) (.slice none 0 0))
    generalize ((((((w'.setCell ⟨w.heap.size, 0, none⟩ (.int .u8 0)).setCell ⟨w.heap.size, 1, none⟩ (.bool false)).setCell ⟨w.heap.size, 2, none⟩ (.int .i64 0)).setCell ⟨w.heap.size, 3, none⟩ (.string ⟨#[]⟩)).setCell ⟨w.heap.size, 4, none⟩ (.slice none 0 0)).setCell ⟨w.heap.size, 5, none⟩ (.slice none 0 0)).setCell ⟨w.heap.size, 6, none⟩ (.slice none 0 0) = Wz at HBz HGz ⊢
    obtain ⟨z0, z1, z2, z3, z4, z5, z6⟩ := HBz.out.cells
    clear c0 c1 c2 c3 c4 c5 c6 fr
    rw [jump_ret]
    refine bodyPost_ret (v := .tuple #[.agg #[.int .u8 0, .bool false, .int .i64 0, .string ⟨#[]⟩, .slice none 0 0, .slice none 0 0, .slice none 0 0], .int .u16 50]) ?_ rfl ?_
    · simp [results, Try.results17, go_sem, z0, z1, z2, z3, z4, z5, z6, h5, hsz]
    · have hsw : w.heap.size ≤ w'.heap.size := by have := lt_of_block HBx.out; omega
      exact ⟨⟨below_grown HB.out HGz.out (by omega) (by omega), .inr ⟨rfl, HNo.out⟩⟩, trivial⟩
end Go.Proofs.Ytehapglbenaikaa
