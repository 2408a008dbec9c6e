/- Contracts of Seal and of the writer as Seal and PutMeta use it. -/
import Derived.Test.YtkkjppdooaipiaaWB
import Derived.Lib.SlBytesConst
namespace Go.Proofs.Ytkkjppdooaipiaa
open Go.RowKit
set_option linter.unusedVariables false

/-- since w a writer at p was made, of new blocks alone, and has written zs. -/
structure St (w : World) (p size : Nat) (zs : List Int) (W : World) : Prop where
  wr : Wr W p size zs
  new : New w.heap.size W p
  bel : Below w.heap.size w W
theorem St.wrote {w W W' : World} {p size : Nat} {zs ys : List Int} (h : St w p size zs W) (h1 : Wr W' p size ys) (h2 : Wrote p W W') : St w p size ys W' :=
  ⟨h1, h.new.wrote h2 h.bel.size, h.bel.trans (h2.below h.new h.bel.size)⟩
theorem St.below {w W W' : World} {p size : Nat} {zs : List Int} (h : St w p size zs W) (hb : Below W.heap.size W W') : St w p size zs W' :=
  ⟨h.wr.below hb, h.new.below h.wr.lt hb, h.bel.trans (hb.mono h.bel.size)⟩
theorem st_new (n : Nat) (ni : Int) (hni : ni = (n : Int)) (w : World) (hn : n ≤ 2000) :
    Calls Try.prog 44 #[.int .i64 ni] w fun e w' => ∃ p, e = .returned (.pointer (some ⟨p, 0, none⟩)) ∧ St w p n [] w' := by
  subst hni
  refine (neww_any n w hn).mono ?_
  rintro e w' ⟨p, h1, h2, h3, h4⟩
  exact ⟨p, h1, h2, h3, h4⟩
theorem st_raw (p size : Nat) (a : Option Addr) (n c : Nat) (zs ys : List Int) (w W : World) (h : St w p size zs W) (hl : ys.length = n) (hn : a = none → n = 0 ∧ c = 0) (hr : Row W a ys) (hb : zs.length ≤ 5000) (hn2 : n ≤ 5000) :
    Calls Try.prog 45 #[.pointer (some ⟨p, 0, none⟩), .slice a n c] W fun e W' => e = .returned (.tuple #[]) ∧ St w p size (zs ++ ys) W' := by
  refine (wraw_any p size a n c zs ys W h.wr hl hn hr (by omega)).mono ?_
  rintro e w' ⟨h1, h2, h3⟩
  exact ⟨h1, h.wrote h2 h3⟩
theorem st_num (p size v m : Nat) (vi mi : Int) (hvi : vi = (v : Int)) (hmi : mi = (m : Int)) (zs : List Int) (w W : World) (h : St w p size zs W) (hv : v < 18446744073709551616) (hm : m ≤ 2000) (hb : zs.length ≤ 5000) :
    Calls Try.prog 46 #[.pointer (some ⟨p, 0, none⟩), .int .u64 vi, .int .i64 mi] W fun e W' => e = .returned (.tuple #[]) ∧ St w p size (zs ++ Crc.le m v) W' := by
  subst hvi
  subst hmi
  refine (wnum_any p size v m zs W h.wr hv hm (by omega)).mono ?_
  rintro e w' ⟨h1, h2, h3⟩
  exact ⟨h1, h.wrote h2 h3⟩
theorem st_nil (p size m : Nat) (mi : Int) (hmi : mi = (m : Int)) (zs : List Int) (w W : World) (h : St w p size zs W) (hm : m ≤ 2000) (hb : zs.length ≤ 5000) :
    Calls Try.prog 47 #[.pointer (some ⟨p, 0, none⟩), .int .i64 mi] W fun e W' => e = .returned (.tuple #[]) ∧ St w p size (zs ++ Crc.le m 0) W' := by
  subst hmi
  rw [Crc.le_zero]
  refine (wnil_any p size m zs W h.wr hm (by omega)).mono ?_
  rintro e w' ⟨h1, h2, h3⟩
  exact ⟨h1, h.wrote h2 h3⟩
/-- bytes that a call made: they lie in a new block. -/
def Made (w : World) (v : Value) (zs : List Int) (W : World) : Prop := Own W v zs ∧ (∀ k, v.ownBlock = some k → w.heap.size ≤ k) ∧ Below w.heap.size w W
theorem st_seal (p size : Nat) (zs : List Int) (w W : World) (h : St w p size zs W) (hs : zs.length + 4 ≤ size) (hm : size ≤ 2000) (h8 : Byts zs) :
    Calls Try.prog 48 #[.pointer (some ⟨p, 0, none⟩)] W fun e W' => ∃ v, e = .returned v ∧ Made w v (Pg.sl size zs) W' := by
  refine (sealed_any p size zs W h.wr hs hm h8).mono ?_
  rintro e w' ⟨v, h1, h2, h3, h4⟩
  exact ⟨v, h1, h2, fun k hk => h.new.wrote h4 h.bel.size k (h3 k hk), h.bel.trans (h4.below h.new h.bel.size)⟩
theorem row_new (w : World) (zs : List Int) (cs : Array Value) (f : Nat × Nat) (h : cs = (zs.map (Value.int .u8)).toArray) : Row (w.alloc (.cells cs 5 f)) (some ⟨w.heap.size, 0, none⟩) zs := by
  refine .inr ⟨_, _, rfl, by simp, fun i hi => ?_⟩
  rw [World.cell?_alloc_mark, h]
  simp [hi]
theorem ret_two {v v' : Value} {k : IntKind} {a a' : Int} (h : v = v') (h2 : a = a') : Ending.returned (.tuple #[v, .int k a]) = .returned (.tuple #[v', .int k a']) := by rw [h, h2]

set_option maxHeartbeats 800000 in
theorem kind_yes (kind : Nat) (w : World) (h1 : 1 ≤ kind) (h4 : kind ≤ 4) : Calls Try.prog 43 #[.int .u8 (kind : Int)] w fun e w' => e = .returned (.bool true) ∧ w' = w := by
  have d1 : decide ((1 : Int) ≤ (kind : Int)) = true := by simp; omega
  have d2 : decide ((kind : Int) ≤ 4) = true := by simp; omega
  go_enter Try.func43, Try.ntmps43
  go_wp2
  go_ret
  exact ⟨rfl, rfl⟩
set_option maxHeartbeats 800000 in
theorem kind_no (kind : Nat) (w : World) (h : ¬ (1 ≤ kind ∧ kind ≤ 4)) : Calls Try.prog 43 #[.int .u8 (kind : Int)] w fun e w' => e = .returned (.bool false) ∧ w' = w := by
  by_cases h1 : 1 ≤ kind
  · have d1 : decide ((1 : Int) ≤ (kind : Int)) = true := by simp; omega
    have d2 : decide ((kind : Int) ≤ 4) = false := by simp; omega
    go_enter Try.func43, Try.ntmps43
    go_wp2
    go_ret
    exact ⟨rfl, rfl⟩
  · have d1 : decide ((1 : Int) ≤ (kind : Int)) = false := by simp; omega
    go_enter Try.func43, Try.ntmps43
    go_wp2
    go_ret
    exact ⟨rfl, rfl⟩

set_option maxHeartbeats 1600000 in
set_option maxRecDepth 1000000 in
theorem seal_ok (kind number : Nat) (a : Option Addr) (n c : Nat) (pl : List Int) (w : World) (h1 : 1 ≤ kind) (h4 : kind ≤ 4) (hnum : number < 4294967296) (hl : pl.length = n) (hn : a = none → n = 0 ∧ c = 0) (hr : Row w a pl) (h8 : Byts pl) (hlen : n ≤ 1008) :
    Calls Try.prog 27 #[.int .u8 (kind : Int), .int .u32 (number : Int), .slice a n c] w fun e w' => ∃ v, e = .returned (.tuple #[v, .int .u16 0]) ∧ Made w v (Pg.pg kind number pl) w' := by
  have kc := fun (w : World) (C : Array Value) (n c : Nat) => Lib.run_convert_bytes_const (P := Try.prog) w 34 5 C n c Try.underlying34 Try.underlying5
  have HR := hide hr
  have HL := hide hl
  have HN := hide hn
  have H8 := hide h8
  have HK := hide (kind_yes kind w h1 h4)
  have HG : Hid (Pg.pg kind number pl = Pg.sl 1024 (([67, 80] ++ Crc.le 1 kind ++ Crc.le 1 0 ++ Crc.le 4 number ++ Crc.le 2 n ++ Crc.le 2 0) ++ pl)) := by rw [Hid, Pg.pg, Pg.ph, HL.out]
  have HH : Hid (Byts (([67, 80] ++ Crc.le 1 kind ++ Crc.le 1 0 ++ Crc.le 4 number ++ Crc.le 2 n ++ Crc.le 2 0) ++ pl)) := by
    have := Pg.ph_b8 kind number pl h8
    rw [Pg.ph, HL.out] at this
    exact this
  clear hr hl hn h8
  generalize Pg.pg kind number pl = G at *
  go_enter Try.func27, Try.ntmps27
  go_wp2_with fail
  refine HK.out.mono ?_
  rintro e w' ⟨rfl, rfl⟩
  go_wp2_with fail
  refine (st_new 1024 1024 rfl _ (by omega)).mono ?_
  rintro e w1 ⟨p, rfl, hs1⟩
  have HS1 := hide hs1
  clear hs1
  go_wp2_with fail
  refine (st_raw p 1024 _ 2 2 [] [67, 80] w' _ (HS1.out.below (below_alloc _ _)) rfl (by intro h; cases h) (row_new _ _ _ _ rfl) (by simp) (by omega)).mono ?_
  rintro e w2 ⟨rfl, hs2⟩
  have HS2 := hide hs2
  clear hs2
  go_wp2_with fail
  refine (st_num p 1024 kind 1 _ 1 rfl rfl _ w' _ HS2.out (by omega) (by omega) (by simp)).mono ?_
  rintro e w3 ⟨rfl, hs3⟩
  have HS3 := hide hs3
  clear hs3
  go_wp2_with fail
  refine (st_nil p 1024 1 1 rfl _ w' _ HS3.out (by omega) (by simp [Crc.le_length])).mono ?_
  rintro e w4 ⟨rfl, hs4⟩
  have HS4 := hide hs4
  clear hs4
  go_wp2_with fail
  refine (st_num p 1024 number 4 _ 4 rfl rfl _ w' _ HS4.out (by omega) (by omega) (by simp [Crc.le_length])).mono ?_
  rintro e w5 ⟨rfl, hs5⟩
  have HS5 := hide hs5
  clear hs5
  go_wp2_with fail
  refine (st_num p 1024 n 2 _ 2 rfl rfl _ w' _ HS5.out (by omega) (by omega) (by simp [Crc.le_length])).mono ?_
  rintro e w6 ⟨rfl, hs6⟩
  have HS6 := hide hs6
  clear hs6
  go_wp2_with fail
  refine (st_nil p 1024 2 2 rfl _ w' _ HS6.out (by omega) (by simp [Crc.le_length])).mono ?_
  rintro e w7 ⟨rfl, hs7⟩
  have HS7 := hide hs7
  clear hs7
  go_wp2_with fail
  refine (st_raw p 1024 a n c _ pl w' _ HS7.out HL.out HN.out (HR.out.below HS7.out.bel) (by simp [Crc.le_length]) (by omega)).mono ?_
  rintro e w8 ⟨rfl, hs8⟩
  have HS8 := hide hs8
  clear hs8
  go_wp2_with fail
  refine (st_seal p 1024 _ w' _ HS8.out (by have := HL.out; simp [Crc.le_length]; omega) (by omega) HH.out).mono ?_
  rintro e w9 ⟨v, rfl, hm9⟩
  simp only [List.nil_append, List.append_assoc] at hm9 HG
  rw [← HG.out] at hm9
  have HM := hide hm9
  clear hm9
  obtain ⟨a9, n9, c9, rfl, -⟩ := HM.out.1.shape2
  go_wp2
  go_ret2
  exact ⟨_, rfl, HM.out⟩

set_option maxHeartbeats 1600000 in
set_option maxRecDepth 1000000 in
theorem seal_no (kind number : Nat) (a : Option Addr) (n c : Nat) (w : World) (h : ¬ (1 ≤ kind ∧ kind ≤ 4 ∧ n ≤ 1008)) :
    Calls Try.prog 27 #[.int .u8 (kind : Int), .int .u32 (number : Int), .slice a n c] w fun e w' => e = .returned (.tuple #[.slice none 0 0, .int .u16 80]) ∧ Below w.heap.size w w' := by
  by_cases hk : 1 ≤ kind ∧ kind ≤ 4
  · have hn : (1008 : Int) < (n : Int) := by omega
    have HK := hide (kind_yes kind w hk.1 hk.2)
    go_enter Try.func27, Try.ntmps27
    go_wp2_with fail
    refine HK.out.mono ?_
    rintro e w' ⟨rfl, rfl⟩
    go_wp2
    go_ret2
    exact ⟨rfl, Below.refl _ _⟩
  · have HK := hide (kind_no kind w hk)
    go_enter Try.func27, Try.ntmps27
    go_wp2_with fail
    refine HK.out.mono ?_
    rintro e w' ⟨rfl, rfl⟩
    go_wp2
    go_ret2
    exact ⟨rfl, Below.refl _ _⟩
end Go.Proofs.Ytkkjppdooaipiaa
