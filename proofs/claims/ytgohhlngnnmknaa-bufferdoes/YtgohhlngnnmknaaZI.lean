/- Two answers are the same. -/
import Derived.Test.YtgohhlngnnmknaaE
import Derived.Test.YtgohhlngnnmknaaIH
import Derived.Test.YtgohhlngnnmknaaWM
import Derived.Test.YtgohhlngnnmknaaHA
import Derived.Test.YtgohhlngnnmknaaDB
import Derived.Test.YtgohhlngnnmknaaRA
import Derived.Test.YtgohhlngnnmknaaZE
namespace Go.Proofs.Ytgohhlngnnmknaa
open Go.RowKit Go.Maps
set_option linter.unusedVariables false

theorem ens_box {w : World} {y : En} (h : y.Ok w) : Ens (w.alloc (.cells #[.slice y.ka y.e.key.length y.kc, .slice y.va y.e.val.length y.vc, .bool y.e.del] 85)) (some ⟨w.heap.size, 0, none⟩) 1 1 [y] := by
  refine ⟨rfl, Nat.le_refl _, by omega, (by intro e; cases e), .inr ⟨w.heap.size, 0, rfl, by simp, fun j u hu => ?_⟩, fun x hx => ?_⟩
  · have e : rowc [y] = [.slice y.ka y.e.key.length y.kc, .slice y.va y.e.val.length y.vc, .bool y.e.del] := by simp [rowc, En.cells]
    rw [e] at hu
    rw [World.cell?_alloc_at _ _ _ _ rfl, Nat.zero_add]
    simpa using hu
  · rw [List.mem_singleton.1 hx]
    exact h.below (below_alloc w _)
set_option maxHeartbeats 1600000 in
set_option maxRecDepth 1000000 in
theorem same_any {w : World} (y z : En) (hy : y.Ok w) (hz : z.Ok w) (he : y.e = z.e) (f : Bool) :
    Calls Try.prog 32 #[y.v, .bool f, z.v, .bool f] w fun e w' => e = .returned (.bool true) ∧ Below w.heap.size w w' := by
  obtain ⟨w1, hw1⟩ : ∃ w1, w1 = w.alloc (.cells #[.slice y.ka y.e.key.length y.kc, .slice y.va y.e.val.length y.vc, .bool y.e.del] 85) := ⟨_, rfl⟩
  have hB1 : Below w.heap.size w w1 := by rw [hw1]; exact below_alloc _ _
  obtain ⟨w2, hw2⟩ : ∃ w2, w2 = w1.alloc (.cells #[.slice z.ka z.e.key.length z.kc, .slice z.va z.e.val.length z.vc, .bool z.e.del] 85) := ⟨_, rfl⟩
  have hB2 : Below w.heap.size w w2 := hB1.trans ((by rw [hw2]; exact below_alloc _ _ : Below w1.heap.size w1 w2).mono hB1.size)
  have HY := hide hy
  have HZ := hide hz
  have HEq := hide he
  clear hy hz he
  unfold En.v
  go_enter Try.func32, Try.ntmps32
  have hn1 : w1.heap.size = w.heap.size + 1 := by rw [hw1]; simp
  have hn2 : w2.heap.size = w.heap.size + 1 + 1 := by rw [hw2]; simp [hn1]
  obtain ⟨w3, hw3⟩ : ∃ w3, w3 = w2.alloc (.cells #[.slice y.ka y.e.key.length y.kc, .slice y.va y.e.val.length y.vc, .bool y.e.del] 85) := ⟨_, rfl⟩
  obtain ⟨w4, hw4⟩ : ∃ w4, w4 = w3.alloc (.cells #[.slice z.ka z.e.key.length z.kc, .slice z.va z.e.val.length z.vc, .bool z.e.del] 85) := ⟨_, rfl⟩
  have hn3 : w3.heap.size = w.heap.size + 1 + 1 + 1 := by rw [hw3]; simp [hn2]
  have hB3 : Below w.heap.size w w3 := hB2.trans ((by rw [hw3]; exact below_alloc _ _ : Below w2.heap.size w2 w3).mono hB2.size)
  have b34 : Below w3.heap.size w3 w4 := by rw [hw4]; exact below_alloc _ _
  have hB4 : Below w.heap.size w w4 := hB3.trans (b34.mono hB3.size)
  have e1 := (hw3 ▸ ens_box (HY.out.below hB2) : Ens w3 _ 1 1 [y]).below b34
  have e2 : Ens w4 _ 1 1 [z] := hw4 ▸ ens_box (HZ.out.below hB3)
  rw [hn2] at e1
  rw [hn3] at e2
  have HS := hide (samec_yes _ _ 1 1 1 [y] [z] w4 e1 e2 (by simp [ers, HEq.out]) (by omega))
  have HB4 := hide hB4
  rw [hw4, hw3, hw2, hw1] at HS HB4
  go_wp2_with (first | (go_at_call 11; refine HS.out.mono ?_; rintro e w5 ⟨rfl, hb5⟩) | fail)
  go_ret
  exact ⟨rfl, HB4.out.trans (hb5.mono HB4.out.size)⟩
end Go.Proofs.Ytgohhlngnnmknaa
/- SamePairs, of pairs that are the same. -/
namespace Go.Proofs.Ytgohhlngnnmknaa
open Go.RowKit Go.Maps
set_option linter.unusedVariables false
set_option maxHeartbeats 3200000 in
set_option maxRecDepth 1000000 in
theorem samep_yes (a b : Option Addr) (n c d : Nat) (xs ys : List En) (w : World) (h : Prs w a n c xs) (k : Prs w b n d ys) (he : (ers xs).map cle = (ers ys).map cle) (hn : n ≤ 1000000) :
    Calls Try.prog 38 #[.slice a n c, .slice b n d] w fun e w' => e = .returned (.bool true) ∧ Below w.heap.size w w' := by
  have hnb : ((n : Int) != (n : Int)) = false := by simp
  have HX := hide h
  have HY := hide k
  have HE := hide he
  clear h k he
  go_enter Try.func38, Try.ntmps38
  go_wp2
  go_loopw [5] (fun i wr => ∃ k : Nat, k ≤ n ∧ i = .int .i64 (k : Int) ∧ Below w.heap.size w wr) (fun i _ => n - (intOf i).toNat)
  case atStart => exact ⟨0, Nat.zero_le _, rfl, Below.refl _ _⟩
  case round =>
    obtain ⟨k, hk, rfl, hbl⟩ := hrel
    have HBl := hide hbl
    by_cases hlt : k < n
    · obtain ⟨x, b1, o1, hx, rfl, _, c0, c1, hokx⟩ := (HX.out.below hbl).at hlt
      obtain ⟨y, b2, o2, hy, rfl, _, e0, e1, hoky⟩ := (HY.out.below hbl).at hlt
      have hxy : x.e.key = y.e.key ∧ x.e.val = y.e.val := by
        have h1 : ((ers xs).map cle)[k]? = some (cle x.e) := by rw [List.getElem?_map, ers_at hx]; rfl
        have h2 : ((ers ys).map cle)[k]? = some (cle y.e) := by rw [List.getElem?_map, ers_at hy]; rfl
        rw [HE.out, h2] at h1
        have h3 : cle y.e = cle x.e := by simpa using h1
        exact ⟨(congrArg Ee.key h3).symm, (congrArg Ee.val h3).symm⟩
      have kx := hokx.key
      have vx := hokx.val
      have ky := hoky.key
      have vy := hoky.val
      rw [hxy.1] at c0 kx
      rw [hxy.2] at c1 vx
      have HK1 := hide (sameb_yes x.ka y.ka y.e.key.length x.kc y.kc y.e.key wr.drew (kx.below (Below.refl _ _).drew) (ky.below (Below.refl _ _).drew))
      have HV1 := hide (fun W (hW : Below wr.heap.size wr W) => sameb_yes x.va y.va y.e.val.length x.vc y.vc y.e.val W (vx.below hW) (vy.below hW))
      have HSt : Hid (∀ W, Below wr.heap.size wr W → W.cell? ⟨b1, o1 + k * 2, none⟩ = some (.slice x.ka y.e.key.length x.kc) ∧ W.cell? ⟨b1, o1 + k * 2 + 1, none⟩ = some (.slice x.va y.e.val.length x.vc) ∧ W.cell? ⟨b2, o2 + k * 2, none⟩ = some (.slice y.ka y.e.key.length y.kc) ∧ W.cell? ⟨b2, o2 + k * 2 + 1, none⟩ = some (.slice y.va y.e.val.length y.vc)) := hide fun W hW => ⟨one_below1 c0 hW, one_below1 c1 hW, one_below1 e0 hW, one_below1 e1 hW⟩
      have i1 : (0 : Int) ≤ (k : Int) := by omega
      have i2 : (k : Int) < (n : Int) := by omega
      clear hx hy hokx hoky hxy kx vx ky vy hbl
      go_wp2
      go_region_held3 (fun W => W.cell? ⟨b1, o1 + k * 2, none⟩ = some (.slice x.ka y.e.key.length x.kc) ∧ W.cell? ⟨b1, o1 + k * 2 + 1, none⟩ = some (.slice x.va y.e.val.length x.vc) ∧ W.cell? ⟨b2, o2 + k * 2, none⟩ = some (.slice y.ka y.e.key.length y.kc) ∧ W.cell? ⟨b2, o2 + k * 2 + 1, none⟩ = some (.slice y.va y.e.val.length y.vc)) ((refine ⟨?_, ?_, ?_, ?_⟩ <;> assumption)) ((first | (go_at_call_of 43 (Value.slice x.ka y.e.key.length x.kc); refine HK1.out.mono ?_; intro r' w3 hh; obtain ⟨rfl, hb3⟩ := hh; have HB3 := hide ((Below.refl wr.heap.size wr).drew.trans hb3); clear hb3 c0 c1 e0 e1; obtain ⟨c0, c1, e0, e1⟩ := HSt.out w3 HB3.out) | (go_at_call_of 43 (Value.slice x.va y.e.val.length x.vc); refine (HV1.out _ HB3.out).mono ?_; intro r' w4 hh; obtain ⟨rfl, hb4⟩ := hh; have HB4 := hide (HB3.out.trans (hb4.mono HB3.out.size)); clear hb4 c0 c1 e0 e1; obtain ⟨c0, c1, e0, e1⟩ := HSt.out w4 HB4.out)))
      go_wp2
      go_roundw
      case rel => exact ⟨k + 1, by omega, by go_num, HBl.out.trans (HB4.out.mono HBl.out.size)⟩
      case measure => simp [intOf]; omega
    · go_wp2
      go_ret
      exact ⟨rfl, HBl.out⟩
end Go.Proofs.Ytgohhlngnnmknaa
/- Contracts of lending bytes, of asking whether what was lent is whole, and of writing over it. -/
namespace Go.Proofs.Ytgohhlngnnmknaa.Le
open Go.RowKit Go.Proofs.Ytgohhlngnnmknaa.Bo
set_option linter.unusedVariables false

theorem grown_refl (w : World) (r : Option Nat) : w.grownBy w r := ⟨rfl, rfl, rfl, Nat.le_refl _, fun _ _ _ => rfl⟩
theorem grown_trans {a b c : World} {r : Option Nat} (h : a.grownBy b r) (k : b.grownBy c r) : a.grownBy c r :=
  ⟨k.os.trans h.os, k.tape.trans h.tape, k.output.trans h.output, Nat.le_trans h.size k.size, fun i hi hn => (k.block i (Nat.lt_of_lt_of_le hi h.size) hn).trans (h.block i hi hn)⟩

theorem row_grown {w w' : World} {a : Option Addr} {zs : List Int} {row : Option Nat} (h : Row w a zs) (hg : w.grownBy w' row) (hne : ∀ k, row = some k → w.heap.size ≤ k) : Row w' a zs := by
  rcases h with h | ⟨b, off, rfl, hlt, hc⟩
  · exact .inl h
  · refine .inr ⟨b, off, rfl, Nat.lt_of_lt_of_le hlt hg.size, fun i hi => hg.cell (hc i hi) (fun e => ?_)⟩
    have := hne b e.symm; omega
theorem two_new (w : World) (x y : Value) : ∀ j u, [x, y][j]? = some u → (w.alloc (.cells #[x, y] 5)).cell? ((⟨w.heap.size, 0, none⟩ : Addr).add j) = some u := by
  intro j u h
  rw [Addr.add_lit, World.cell?_alloc_at _ _ _ _ rfl, Nat.zero_add]
  rw [← h]; simp
theorem of_base {w : World} {base : Nat} {v : Value} {n : Nat} {zs : List Int} (h : w.ownsRow base 5 1 v n (zs.map (Value.int .u8))) : Own w v zs := by
  have e : n = zs.length := by have := h.1; simpa using this.symm
  subst e
  refine ⟨by simp, ?_⟩
  rcases h.2 with h | ⟨g, cap, cur, h1, _, h2⟩
  · exact .inl h
  · exact .inr ⟨g, cap, cur, h1, Nat.zero_le _, h2⟩

set_option maxHeartbeats 800000 in
set_option maxRecDepth 1000000 in
theorem lent_any (a : Option Addr) (len cap : Nat) (zs : List Int) (w : World) (hl : zs.length = len) (hbig : len ≤ 140737488351232) (hn : a = none → len = 0 ∧ cap = 0) (hr : Row w a zs) :
    Calls Try.prog 24 #[.slice a len cap] w fun e w' => e = .returned (.slice (some ⟨w.heap.size, 0, none⟩) len (len + 2)) ∧ Own w' (.slice (some ⟨w.heap.size, 0, none⟩) (len + 2) (len + 2)) (zs ++ [91, 92]) ∧ Below w.heap.size w w' := by
  obtain ⟨i0, hi, hz0, hz1, hz2⟩ := info_parts Bo.infoBytes_e
  have HL := hide hl
  have HR := hide hr
  have HN := hide hn
  clear hl hr hn
  go_enter Try.func24, Try.ntmps24
  go_wp2_with (at_make; refine wpList_make_own _ rfl _ _ 60 rfl w.heap.size 5 i0 (.int .u8 0) 1 Try.underlying60 hi hz0 hz1 _ _ _ (len + 2) rfl rfl (by omega) ?b2 ?b3 (Nat.le_refl _) ?_)
  case b2 => rw [hz2]; omega
  case b3 => unfold maxLen; omega
  intro w0 hown0 hgrow0
  have hr0 := row_grown HR.out hgrow0 (by intro k h; cases h)
  have hb0 := (Below.refl w.heap.size w).grown hgrow0 (Nat.le_refl _) (fun k h => by cases h)
  go_wp2_with (first | (at_builtin; refine wpList_append_fits_any _ rfl (.tmp 8) (.tmp 9) 60 rfl w.heap.size 5 i0 1 Try.underlying60 hi hz1 w.heap.size 0 (len + 2) [] rfl hown0 a len cap (zs.map (Value.int .u8)) rfl (by have := HL.out; simp [this]) HN.out hr0.news (ints_oneCell _ _) (by omega) ?_; intro w1 hown1 hgrow1; simp only [Nat.zero_add, List.nil_append] at hown1) | (at_builtin; refine wpList_append_fits _ rfl (.tmp 11) (.tmp 12) 60 rfl w.heap.size 5 i0 1 Try.underlying60 hi hz1 w.heap.size len (len + 2) (zs.map (Value.int .u8)) rfl (hown1.alloc _) ⟨w1.heap.size, 0, none⟩ 2 2 [.int .u8 91, .int .u8 92] rfl rfl (two_new _ _ _) (ints_oneCell .u8 [91, 92]) (by omega) ?_; intro w2 hown2 hgrow2))
  have hb1 := hb0.grown hgrow1 hb0.size (fun k hk => by cases hk; exact Nat.le_refl _)
  have hb2 := (hb1.alloc hb1.size (.cells #[.int .u8 91, .int .u8 92] 5)).grown hgrow2 (by have := hb1.size; simp; omega) (fun k hk => by cases hk; exact Nat.le_refl _)
  go_ret
  refine ⟨rfl, of_base (base := w.heap.size) (n := len + 2) ?_, hb2⟩
  simpa using hown2

theorem row_left {w : World} {a : Option Addr} {zs ys : List Int} (h : Row w a (zs ++ ys)) : Row w a zs := by
  rcases h with h | ⟨b, off, rfl, hlt, hc⟩
  · exact .inl (List.append_eq_nil_iff.1 h).1
  · refine .inr ⟨b, off, rfl, hlt, fun i hi => ?_⟩
    have := hc i (by simp; omega)
    rw [this]; simp [List.getElem?_append_left hi]
theorem row_last {w : World} {g : Nat} {zs : List Int} (h : Row w (some ⟨g, 0, none⟩) (zs ++ [91, 92])) : w.cell? ⟨g, zs.length, none⟩ = some (.int .u8 91) ∧ w.cell? ⟨g, zs.length + 1, none⟩ = some (.int .u8 92) := by
  rcases h with h | ⟨b, off, e, hlt, hc⟩
  · simp at h
  · cases e
    have h1 := hc zs.length (by simp)
    have h2 := hc (zs.length + 1) (by simp)
    rw [Nat.zero_add] at h1 h2
    rw [h1, h2]
    simp

set_option maxHeartbeats 800000 in
set_option maxRecDepth 1000000 in
theorem whole_any (g : Nat) (b : Option Addr) (len cap2 : Nat) (zs : List Int) (w : World) (hbig : len ≤ 140737488351232) (hr : Row w (some ⟨g, 0, none⟩) (zs ++ [91, 92])) (hr2 : Inn w b len cap2 zs) :
    Calls Try.prog 39 #[.slice (some ⟨g, 0, none⟩) len (len + 2), .slice b len cap2] w fun e w' => e = .returned (.bool true) ∧ Below w.heap.size w w' := by
  have hl := hr2.len
  obtain ⟨c1, c2⟩ := row_last hr
  rw [hl] at c1 c2
  have H := hide (sameb_yes (some ⟨g, 0, none⟩) b len (len + 2) cap2 zs w ⟨hl, by omega, by omega, fun e => (by cases e), row_left hr, hr2.byts⟩ hr2)
  clear hl hr hr2
  go_enter Try.func39, Try.ntmps39
  go_wp2_with fail
  refine H.out.mono ?_
  rintro e w1 ⟨rfl, hb1⟩
  go_wp2
  go_ret
  exact ⟨rfl, hb1⟩

/-- a block of bytes that is written over. -/
def Blk (w : World) (g n : Nat) : Prop := ∃ cur, w.heap[g]? = some (.cells cur 5 (0, 0)) ∧ cur.size = n
theorem Blk.f {w : World} {g n : Nat} (h : Blk w g n) (i : Nat) : w.frozen? ⟨g, i, none⟩ = false := by obtain ⟨cur, h1, _⟩ := h; simp [World.frozen?, h1]
theorem Blk.c {w : World} {g n : Nat} (h : Blk w g n) (i : Nat) (hi : i < n) : ∃ v, w.cell? ⟨g, i, none⟩ = some v := by
  obtain ⟨cur, h1, h2⟩ := h
  exact ⟨cur[i]'(by omega), by simp [World.cell?, h1, h2, hi]⟩
theorem Blk.set {w : World} {g n : Nat} (h : Blk w g n) (i : Nat) (v : Value) : Blk (w.setCell ⟨g, i, none⟩ v) g n := by
  obtain ⟨cur, h1, h2⟩ := h
  exact ⟨_, heap_setCell_same w g i _ 5 _ h1, by simpa using h2⟩
theorem own_blk {w : World} {g n c : Nat} {zs : List Int} (h : Own w (.slice (some ⟨g, 0, none⟩) n c) zs) : Blk w g c := by
  rcases h.2 with ⟨e, _⟩ | ⟨g', cap, cur, e, _, hg, _, _, hs, _⟩
  · cases e
  · simp at e
    obtain ⟨rfl, rfl, rfl⟩ := e
    exact ⟨cur, hg, by simpa using hs⟩

set_option maxHeartbeats 800000 in
set_option maxRecDepth 1000000 in
theorem spoil_any (g len n : Nat) (w : World) (h : Blk w g n) (hl : len ≤ n) (hn : n ≤ 1407374883552320) :
    Calls Try.prog 40 #[.slice (some ⟨g, 0, none⟩) len n] w fun e w' => e = .returned (.tuple #[]) ∧ w.grownBy w' (some g) := by
  have H := hide h
  clear h
  go_enter Try.func40, Try.ntmps40
  go_wp2
  go_loopw [3] (fun i wr' => ∃ k : Nat, k ≤ n ∧ i = .int .i64 (k : Int) ∧ Blk wr' g n ∧ w.grownBy wr' (some g)) (fun i _ => n - (intOf i).toNat)
  case atStart => exact ⟨0, Nat.zero_le _, rfl, H.out, grown_refl _ _⟩
  case round =>
    obtain ⟨k, hk, rfl, hb, hg⟩ := hrel
    have HB := hide hb
    have HG := hide hg
    clear hb hg
    by_cases hlt : k < n
    · obtain ⟨v, hc⟩ := HB.out.c k hlt
      have hf := HB.out.f k
      go_wp2
      go_roundw
      case rel => exact ⟨k + 1, by omega, by go_num, HB.out.set k _, grown_trans HG.out (grown_setCell _ _ _ _)⟩
      case measure => simp [intOf]; omega
    · go_wp2
      go_end0
      exact ⟨rfl, HG.out⟩
end Go.Proofs.Ytgohhlngnnmknaa.Le
/- What lies beside while an act is done. -/
namespace Go.Proofs.Ytgohhlngnnmknaa
open Go.RowKit Go.Maps
set_option linter.unusedVariables false

/-- pairs that stay: in a row that lies lower or is a row of pairs, each of bytes that stay. -/
structure PrU (B0 : Nat) (w : World) (a : Option Addr) (n c : Nat) (us : List En) : Prop where
  prs : Prs w a n c us
  row : us = [] ∨ ∃ b off, a = some ⟨b, off, none⟩ ∧ (b < B0 ∨ ∃ cs, w.heap[b]? = some (.cells cs 74 (0, 0)))
  each : ∀ y ∈ us, EnU B0 y w
theorem PrU.kx {B0 : Nat} {w w' : World} {a : Option Addr} {n c : Nat} {us : List En} (h : PrU B0 w a n c us) (hx : Kx B0 w w') : PrU B0 w' a n c us := by
  have he : ∀ y ∈ us, EnU B0 y w' := fun y hy => (h.each y hy).kx hx
  rcases h.row with h0 | ⟨b, off, rfl, hb⟩
  · exact ⟨⟨h.prs.len, h.prs.bare, h.prs.cap, h.prs.max, .inl h0, fun y hy => (he y hy).ok⟩, .inl h0, he⟩
  · have st : b < w.heap.size → w'.heap[b]? = w.heap[b]? := fun hlt => hx.block b hlt fun h9 => by
      rcases hb with hb | ⟨cs, hb⟩
      · omega
      · exact h9.2 ⟨cs, _, hb, .inr (.inr (.inl rfl))⟩
    refine ⟨⟨h.prs.len, h.prs.bare, h.prs.cap, h.prs.max, ?_, fun y hy => (he y hy).ok⟩, .inr ⟨b, off, rfl, hb.imp id fun ⟨cs, hc⟩ => ⟨cs, (st (lt_of_block hc)).trans hc⟩⟩, he⟩
    rcases h.prs.row with h0 | ⟨b', off', e, hlt, hc⟩
    · exact .inl h0
    · cases e
      refine .inr ⟨b, off, rfl, Nat.lt_of_lt_of_le hlt hx.size, fun k x hk => ?_⟩
      have := hc k x hk
      simp only [World.cell?] at this ⊢
      rw [st hlt]; exact this
theorem PrU.below {B0 : Nat} {w w' : World} {a : Option Addr} {n c : Nat} {us : List En} (h : PrU B0 w a n c us) (hb : Below w.heap.size w w') : PrU B0 w' a n c us := h.kx (Kx.of_below hb)
/-- the act itself, in its box, what was lent, and what lies lower. -/
structure Cx (Wb : World) (B0 g0 g1 g2 : Nat) (kd : Nat) (ka va : Option Addr) (kn kc vn vc : Nat) (key val : List Int) (inn : Bool) (to : Int) (W : World) : Prop where
  op : W.heap[g0]? = some (.cells #[.int .u8 (kd : Int), .slice ka kn kc, .slice va vn vc, .bool inn, .int .i64 to] 62 (0, 0))
  o1 : Own W (.slice (some ⟨g1, 0, none⟩) (kn + 2) (kn + 2)) (key ++ [91, 92])
  o2 : Own W (.slice (some ⟨g2, 0, none⟩) (vn + 2) (vn + 2)) (val ++ [91, 92])
  low : Below Wb.heap.size Wb W
  base : B0 ≤ W.heap.size ∧ Wb.heap.size ≤ B0
  hk : Inn Wb ka kn kc key
  hv : Inn Wb va vn vc val
section
variable {Wb W W' : World} {B0 g0 g1 g2 kd : Nat} {ka va : Option Addr} {kn kc vn vc : Nat} {key val : List Int} {inn : Bool} {to : Int}
theorem Cx.kx (h : Cx Wb B0 g0 g1 g2 kd ka va kn kc vn vc key val inn to W) (hx : Kx B0 W W') : Cx Wb B0 g0 g1 g2 kd ka va kn kc vn vc key val inn to W' :=
  ⟨hx.keep h.op (.inr (.inl rfl)), hx.own h.o1, hx.own h.o2, h.low.trans ((hx.below h.base.1).mono h.base.2), ⟨Nat.le_trans h.base.1 hx.size, h.base.2⟩, h.hk, h.hv⟩
theorem Cx.below (h : Cx Wb B0 g0 g1 g2 kd ka va kn kc vn vc key val inn to W) (hb : Below W.heap.size W W') : Cx Wb B0 g0 g1 g2 kd ka va kn kc vn vc key val inn to W' := h.kx (Kx.of_below hb)
theorem own_row {w : World} {g n c : Nat} {zs : List Int} (h : Own w (.slice (some ⟨g, 0, none⟩) n c) zs) : Row w (some ⟨g, 0, none⟩) zs := by
  rcases h.2 with ⟨e, _⟩ | ⟨g', cap, cur, e, _, hg, hle, _, hs, ht⟩
  · cases e
  · cases e
    refine .inr ⟨g, 0, rfl, lt_of_block hg, fun i hi => ?_⟩
    rw [Nat.zero_add]
    have hi2 : (cur.toList.take (zs.length * 1))[i]? = (zs.map (Value.int .u8))[i]? := by rw [ht]
    rw [List.getElem?_take, if_pos (by omega), List.getElem?_map] at hi2
    simp only [World.cell?, hg]
    simpa [List.getElem?_eq_getElem hi] using hi2
theorem Cx.k1 (h : Cx Wb B0 g0 g1 g2 kd ka va kn kc vn vc key val inn to W) (hkl : kn ≤ 140737488351232) : Inn W (some ⟨g1, 0, none⟩) kn (kn + 2) key :=
  ⟨h.hk.len, by omega, by omega, fun e => (by cases e), Le.row_left (own_row h.o1), h.hk.byts⟩
theorem Cx.v1 (h : Cx Wb B0 g0 g1 g2 kd ka va kn kc vn vc key val inn to W) (hvl : vn ≤ 140737488351232) : Inn W (some ⟨g2, 0, none⟩) vn (vn + 2) val :=
  ⟨h.hv.len, by omega, by omega, fun e => (by cases e), Le.row_left (own_row h.o2), h.hv.byts⟩
theorem Cx.k (h : Cx Wb B0 g0 g1 g2 kd ka va kn kc vn vc key val inn to W) : Inn W ka kn kc key := h.hk.below h.low
theorem Cx.v (h : Cx Wb B0 g0 g1 g2 kd ka va kn kc vn vc key val inn to W) : Inn W va vn vc val := h.hv.below h.low
theorem Cx.cells (h : Cx Wb B0 g0 g1 g2 kd ka va kn kc vn vc key val inn to W) : W.cell? ⟨g0, 0, none⟩ = some (.int .u8 (kd : Int)) ∧ W.cell? ⟨g0, 1, none⟩ = some (.slice ka kn kc) ∧ W.cell? ⟨g0, 2, none⟩ = some (.slice va vn vc) ∧ W.cell? ⟨g0, 3, none⟩ = some (.bool inn) ∧ W.cell? ⟨g0, 4, none⟩ = some (.int .i64 to) := by
  have := h.op
  refine ⟨?_, ?_, ?_, ?_, ?_⟩ <;> simp [World.cell?, this]
theorem Cx.whole1 (h : Cx Wb B0 g0 g1 g2 kd ka va kn kc vn vc key val inn to W) (hkl : kn ≤ 140737488351232) : Calls Try.prog 39 #[.slice (some ⟨g1, 0, none⟩) kn (kn + 2), .slice ka kn kc] W fun e w' => e = .returned (.bool true) ∧ Below W.heap.size W w' :=
  Le.whole_any g1 ka kn kc key W hkl (own_row h.o1) h.k
theorem Cx.whole2 (h : Cx Wb B0 g0 g1 g2 kd ka va kn kc vn vc key val inn to W) (hvl : vn ≤ 140737488351232) : Calls Try.prog 39 #[.slice (some ⟨g2, 0, none⟩) vn (vn + 2), .slice va vn vc] W fun e w' => e = .returned (.bool true) ∧ Below W.heap.size W w' :=
  Le.whole_any g2 va vn vc val W hvl (own_row h.o2) h.v
theorem Cx.spoil1 (h : Cx Wb B0 g0 g1 g2 kd ka va kn kc vn vc key val inn to W) (hkl : kn ≤ 140737488351232) : Calls Try.prog 40 #[.slice (some ⟨g1, 0, none⟩) kn (kn + 2)] W fun e w' => e = .returned (.tuple #[]) ∧ W.grownBy w' (some g1) :=
  Le.spoil_any g1 kn (kn + 2) W (Le.own_blk h.o1) (by omega) (by omega)
theorem spoil2_any {g n : Nat} {zs : List Int} (h : Own W (.slice (some ⟨g, 0, none⟩) (n + 2) (n + 2)) zs) (hl : n ≤ 140737488351232) (hg : W.grownBy W' (some g1)) (hne : g1 ≠ g) : Calls Try.prog 40 #[.slice (some ⟨g, 0, none⟩) n (n + 2)] W' fun e w' => e = .returned (.tuple #[]) ∧ W'.grownBy w' (some g) := by
  obtain ⟨cur, hc, hs⟩ := Le.own_blk h
  exact Le.spoil_any g n (n + 2) W' ⟨cur, (hg.block g (lt_of_block hc) (fun e => hne (by cases e; rfl))).trans hc, hs⟩ (by omega) (by omega)
end
end Go.Proofs.Ytgohhlngnnmknaa
