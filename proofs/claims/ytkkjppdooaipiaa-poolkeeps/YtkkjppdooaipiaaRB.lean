/- The reader: marks, noughts, the sum. -/
import Derived.Test.YtkkjppdooaipiaaRA
import Derived.Laws.IdiomStrings
import Derived.Laws.Strings
namespace Go.Proofs.Ytkkjppdooaipiaa
open Go.RowKit
set_option linter.unusedVariables false

theorem ba_leq (s : ByteArray) : (s.toList == s.toList) = true := beq_self_eq_true _
theorem ba_lne (s t : ByteArray) (h : ¬ s = t) : (s.toList == t.toList) = false := by
  rw [beq_eq_false_iff_ne]
  intro h'
  rw [ByteArray.toList_eq, ByteArray.toList_eq] at h'
  apply h
  cases s with | mk d => cases t with | mk e => exact congrArg ByteArray.mk (Array.ext' h')
/-- bytes as a text. -/
def bk (ys : List Int) : ByteArray := ⟨(ys.map fun z => UInt8.ofNat z.toNat).toArray⟩
theorem bk_size (ys : List Int) : (bk ys).size = ys.length := by
  unfold bk ByteArray.size
  simp
theorem bk_inj (xs ys : List Int) (hx : Byts xs) (hy : Byts ys) (h : bk xs = bk ys) : xs = ys := by
  have h1 : (xs.map fun z => UInt8.ofNat z.toNat) = ys.map fun z => UInt8.ofNat z.toNat := by
    have := congrArg (fun b : ByteArray => b.data.toList) h
    simpa [bk] using this
  have hback : ∀ l : List Int, Byts l → (l.map fun z => UInt8.ofNat z.toNat).map (fun b => (b.toNat : Int)) = l := by
    intro l hl
    rw [List.map_map]
    conv => rhs; rw [← List.map_id l]
    apply List.map_congr_left
    intro z hz
    have := hl z hz
    simp; omega
  rw [← hback xs hx, ← hback ys hy, h1]
theorem bk_ne (xs ys : List Int) (hx : Byts xs) (hy : Byts ys) (h : xs ≠ ys) : ((bk xs).toList == (bk ys).toList) = false := ba_lne _ _ fun e => h (bk_inj xs ys hx hy e)
theorem run_text (w : World) (a : Option Addr) (n c : Nat) (ys : List Int) (hl : ys.length = n) (hn : a = none → n = 0 ∧ c = 0) (hr : Row w a ys) (hb : Byts ys) : (convert 34 9 (.slice a n c)).run Try.prog w = .ok (.string (bk ys)) w := by
  cases a with
  | none =>
    obtain ⟨rfl, rfl⟩ := hn rfl
    have e : ys = [] := List.eq_nil_of_length_eq_zero hl
    subst e
    rw [run_convert_bytes_string w 34 9 5 none 0 0 Try.underlying34 Try.underlying5 Try.underlying9]
    rfl
  | some ad =>
    have h := run_convert_bytes_back (P := Try.prog) w 34 9 5 ad c (ys.map fun z => UInt8.ofNat z.toNat) Try.underlying34 Try.underlying5 Try.underlying9 (by
      intro j hj
      rw [List.length_map] at hj
      refine hr.news ad rfl j _ ?_
      have := hb (ys[j]) (List.getElem_mem hj)
      simp [hj]
      omega)
    rw [List.length_map, hl] at h
    exact h

set_option maxHeartbeats 800000 in
theorem mark_gen (p : Nat) (m xs ys : List Int) (w : World) (h : Rdr w p (xs ++ ys)) (hl : xs.length = m.length) (hm : m.length ≤ 100) (h8 : Byts m) (hx8 : Byts xs) :
    Calls Try.prog 57 #[.pointer (some ⟨p, 0, none⟩), .string (bk m)] w fun e w' => ((xs = m → e = .returned (.tuple #[])) ∧ (xs ≠ m → e = .panicked flt)) ∧ Rdr w' p ys ∧ w.grownBy w' (some p) := by
  obtain ⟨k, hk⟩ : ∃ k, m.length = k := ⟨_, rfl⟩
  rw [hk] at hm hl
  have hsz : (bk m).size = k := (bk_size m).trans hk
  have HT := hide (take_ok p k xs ys w hl h)
  have HL := hide hl
  have H8 := hide h8
  have HX8 := hide hx8
  have hse : ((bk m).toList == (bk m).toList) = true := ba_leq _
  clear h hl h8 hx8 hk
  by_cases hxm : xs = m
  · subst hxm
    generalize hbk : bk xs = S at *
    have HBK := hide hbk
    clear hbk
    go_enter Try.func57, Try.ntmps57
    go_wp2_with fail
    refine HT.out.mono ?_
    rintro e w1 ⟨a, c, rfl, hkc, hc, hn, hrow, hrd, hg⟩
    have hr := run_text w1 a k c xs HL.out hn hrow.row HX8.out
    rw [HBK.out] at hr
    have HRd := hide hrd
    have HG := hide hg
    clear hn hrow hrd hg
    go_wp2_with fail
    refine (must_yes _ _ rfl _).mono ?_
    rintro e w' ⟨rfl, rfl⟩
    go_wp2
    go_end0
    exact ⟨⟨fun _ => rfl, fun h => absurd rfl h⟩, HRd.out, HG.out⟩
  · have hne := bk_ne xs m HX8.out H8.out hxm
    have hxm := hide hxm
    generalize bk m = S at *
    go_enter Try.func57, Try.ntmps57
    go_wp2_with fail
    refine HT.out.mono ?_
    rintro e w1 ⟨a, c, rfl, hkc, hc, hn, hrow, hrd, hg⟩
    have hr := run_text w1 a k c xs HL.out hn hrow.row HX8.out
    have HRd := hide hrd
    have HG := hide hg
    clear hn hrow hrd hg
    go_wp2_with fail
    refine (must_no _ _ rfl _).mono ?_
    rintro e w' ⟨rfl, rfl⟩
    exact ⟨rfl, ⟨fun h => absurd h hxm.out, fun _ => rfl⟩, HRd.out, HG.out⟩

set_option maxHeartbeats 800000 in
theorem nil_gen (p : Nat) (k : Nat) (xs ys : List Int) (w : World) (h : Rdr w p (xs ++ ys)) (hl : xs.length = k) (hk : k ≤ 5000) (h8 : Byts xs) :
    Calls Try.prog 60 #[.pointer (some ⟨p, 0, none⟩), .int .i64 (k : Int)] w fun e w' => ((xs = List.replicate k 0 → e = .returned (.tuple #[])) ∧ (xs ≠ List.replicate k 0 → e = .panicked flt)) ∧ (xs = List.replicate k 0 → Rdr w' p ys) ∧ w.grownBy w' (some p) := by
  have HT := hide (take_ok p k xs ys w hl h)
  have HL := hide hl
  have H8 := hide h8
  clear h hl h8
  go_enter Try.func60, Try.ntmps60
  go_wp2_with fail
  refine HT.out.mono ?_
  rintro e w1 ⟨a, c, rfl, hkc, hc, hn, hrow, hrd, hg⟩
  have HRow := hide hrow
  have HRd := hide hrd
  have HG := hide hg
  clear hn hrow hrd hg
  go_wp2
  go_loopw [10] (fun i wr => ∃ j : Nat, j ≤ k ∧ i = .int .i64 (j : Int) ∧ xs.take j = List.replicate j 0 ∧ wr = w1) (fun i _ => k - (intOf i).toNat)
  case atStart => exact ⟨0, Nat.zero_le _, rfl, rfl, rfl⟩
  case round =>
    obtain ⟨j, hj, rfl, hz, rfl⟩ := hrel
    have HZ := hide hz
    clear hz
    by_cases hlt : j < k
    · have hjx : j < xs.length := by have := HL.out; omega
      obtain ⟨b, off, rfl, hcell⟩ : ∃ b off, a = some ⟨b, off, none⟩ ∧ wr.cell? ⟨b, off + j, none⟩ = some (.int .u8 (xs.getD j 0)) := by
        rcases HRow.out with h0 | ⟨b, off, h1, _, _, h2⟩
        · rw [h0] at hjx; simp at hjx
        · exact ⟨b, off, h1, h2 j hjx⟩
      have HS := hide (take_snoc xs j hjx)
      have HN : Hid (xs.getD j 0 ≠ 0 → xs ≠ List.replicate k 0) := fun h e => h (by rw [e]; simp [hlt])
      generalize xs.getD j 0 = cc at *
      by_cases hcc : cc = 0
      · subst hcc
        go_wp2_with fail
        refine (must_yes _ _ rfl _).mono ?_
        rintro e w' ⟨rfl, rfl⟩
        go_wp2
        go_roundw
        case rel => exact ⟨j + 1, by omega, by go_num, by rw [HS.out, HZ.out, List.replicate_succ'], trivial⟩
        case measure => simp [intOf]; omega
      · have hne : (cc == 0) = false := by simp [hcc]
        have HC := hide hcc
        clear hcc
        go_wp2_with fail
        refine (must_no _ _ rfl _).mono ?_
        rintro e w' ⟨rfl, rfl⟩
        exact ⟨rfl, ⟨fun h => absurd h (HN.out HC.out), fun _ => rfl⟩, fun h => absurd h (HN.out HC.out), HG.out⟩
    · obtain rfl : j = k := by omega
      have HF : Hid (xs = List.replicate j 0) := by have := HZ.out; rwa [List.take_of_length_le (by have := HL.out; omega)] at this
      go_wp2
      go_end0
      exact ⟨⟨fun _ => rfl, fun h => absurd HF.out h⟩, fun _ => HRd.out, HG.out⟩
end Go.Proofs.Ytkkjppdooaipiaa
