/- Put, Find, Drop and same, told by what was put. -/
import Derived.Test.YtcflnkepopcofaaIF
import Derived.Test.YtcflnkepopcofaaII
import Derived.Test.YtcflnkepopcofaaFC
import Derived.Test.YtcflnkepopcofaaLA
import Derived.Test.YtcflnkepopcofaaJM
namespace Go.Proofs.Ytcflnkepopcofaa
open Go.RowKit
set_option linter.unusedVariables false

theorem put_all (leaf : Bool) (a : Option Addr) (n c : Nat) (xs : List En) (x : En) (w : World) (h : Ens w a n c xs) (hx : x.Ok w) (hn : n ≤ 100000) (hw : wts (ers xs) ≤ 1000000) (hkx : x.e.key.length + x.e.val.length ≤ 1000000) (hr : Rise (ers xs)) :
    Calls Try.prog 7 #[.agg #[.bool leaf, .slice a n c], .agg #[.slice x.ka x.e.key.length x.kc, .slice x.va x.e.val.length x.vc, .int .u32 (x.e.page : Int), .int .u32 (x.e.size : Int)]] w fun e w' => ∃ a' n' c' zs k, e = .returned (.agg #[.bool leaf, .slice a' n' c']) ∧ PutOk leaf (ers xs) x.e (ers zs) k ∧ Ens w' a' n' c' zs ∧ Below w.heap.size w w' := by
  by_cases hold : ∃ z ∈ xs, z.e.key = x.e.key
  · obtain ⟨z, hz, he⟩ := hold
    obtain ⟨k, hk⟩ := List.getElem?_of_mem hz
    have hk' := ers_at hk
    refine (put_old leaf a n c xs x w h hx hn hw hkx (fun i hi => by
      have := at_key hr hk' he hi
      subst this
      exact ther_key hk' he)).mono ?_
    rintro e w' ⟨i, a', c', zs, rfl, hat, hi, hzs, hens, hb⟩
    have := at_key hr hk' he hat
    subst this
    exact ⟨a', n, c', zs, i, rfl, by rw [hzs]; exact put_ok_old hr hk' he, hens, hb⟩
  · have hnew : ∀ z ∈ xs, z.e.key ≠ x.e.key := fun z hz he => hold ⟨z, hz, he⟩
    refine (put_new leaf a n c xs x w h hx hn hw hkx hnew).mono ?_
    rintro e w' ⟨i, a', c', zs, rfl, hat, hzs, hens, hb⟩
    exact ⟨a', n + 1, c', zs, i, rfl, by rw [hzs]; exact put_ok_new hr hat hnew, hens, hb⟩
theorem find_put (leaf : Bool) (ka : Option Addr) (kn kc : Nat) (key : List Int) (a : Option Addr) (n c : Nat) (xs : List En) (w : World) (hk : Inn w ka kn kc key) (h : Ens w a n c xs) (hn : n ≤ 1000000) (hr : Rise (ers xs)) (k : Nat) (e : Ee) (he : (ers xs)[k]? = some e) (hek : e.key = key) :
    Calls Try.prog 9 #[.agg #[.bool leaf, .slice a n c], .slice ka kn kc] w fun e w' => e = .returned (.tuple #[.int .i64 (k : Int), .bool true]) ∧ Below w.heap.size w w' := by
  cases leaf with
  | true =>
    refine (find_leaf ka kn kc key a n c xs w hk h hn).mono ?_
    rintro r w' ⟨i, rfl, hat, hb⟩
    have := at_key hr he hek hat
    subst this
    exact ⟨by rw [ther_key he hek], hb⟩
  | false =>
    refine (find_branch ka kn kc key a n c xs w hk h hn).mono ?_
    rintro r w' ⟨i, rfl, hat, hb⟩
    have := at_above hr he hek hat
    subst this
    have hl : 0 < n := by have := (List.getElem?_eq_some_iff.1 he).1; rw [ers_len, h.len] at this; omega
    exact ⟨by rw [Nat.add_sub_cancel, decide_eq_true hl], hb⟩
theorem find_gone (leaf : Bool) (ka : Option Addr) (kn kc : Nat) (key : List Int) (a : Option Addr) (n c : Nat) (xs : List En) (w : World) (hk : Inn w ka kn kc key) (h : Ens w a n c xs) (hn : n ≤ 1000000) (hg : ∀ e ∈ ers xs, e.key ≠ key) :
    Calls Try.prog 9 #[.agg #[.bool leaf, .slice a n c], .slice ka kn kc] w fun e w' => ∃ (i : Nat) (b : Bool), e = .returned (.tuple #[.int .i64 (i : Int), .bool b]) ∧ Hid (leaf = true → b = false) ∧ Below w.heap.size w w' := by
  cases leaf with
  | true =>
    refine (find_leaf ka kn kc key a n c xs w hk h hn).mono ?_
    rintro r w' ⟨i, rfl, hat, hb⟩
    exact ⟨i, _, rfl, hide fun _ => ther_no hg i, hb⟩
  | false =>
    refine (find_branch ka kn kc key a n c xs w hk h hn).mono ?_
    rintro r w' ⟨i, rfl, hat, hb⟩
    exact ⟨i - 1, _, rfl, hide (fun h => by cases h), hb⟩
theorem drop_put (leaf : Bool) (a : Option Addr) (n c : Nat) (xs : List En) (ka : Option Addr) (kn kc : Nat) (key : List Int) (w : World) (h : Ens w a n c xs) (hk : Inn w ka kn kc key) (hn : n ≤ 100000) (hw : wts (ers xs) ≤ 1000000) (hr : Rise (ers xs)) (k : Nat) (e : Ee) (he : (ers xs)[k]? = some e) (hek : e.key = key) :
    Calls Try.prog 10 #[.agg #[.bool leaf, .slice a n c], .slice ka kn kc] w fun e w' => ∃ a' c' zs, e = .returned (.tuple #[.agg #[.bool leaf, .slice a' (n - 1) c'], .bool true]) ∧ (∀ e ∈ ers zs, e.key ≠ key) ∧ Ens w' a' (n - 1) c' zs ∧ Below w.heap.size w w' := by
  refine (drop_there leaf a n c xs ka kn kc key w h hk hn hw (fun i hi => by
    have := at_key hr he hek hi
    subst this
    exact ther_key he hek)).mono ?_
  rintro r w' ⟨i, a', c', zs, rfl, hat, hi, hzs, hens, hb⟩
  have := at_key hr he hek hat
  subst this
  refine ⟨a', c', zs, rfl, ?_, hens, hb⟩
  rw [hzs, ← hek]
  exact gone hr he
set_option maxHeartbeats 1600000 in
set_option maxRecDepth 1000000 in
theorem same_no (a b : Option Addr) (n c d : Nat) (xs ys : List En) (w : World) (h : Ens w a n c xs) (k : Ens w b n d ys) (he : ers xs = ers ys) (hn : n ≤ 1000000) :
    Calls Try.prog 12 #[.agg #[.bool false, .slice a n c], .agg #[.bool false, .slice b n d]] w fun e w' => e = .returned (.bool true) ∧ Below w.heap.size w w' := by
  obtain ⟨hB, hb0, hb1, hs1⟩ := pair_boxes w (.bool false) (.slice a n c) (.bool false) (.slice b n d)
  obtain ⟨c0, c1, -⟩ := cells_two hb0
  obtain ⟨e0, e1, -⟩ := cells_two hb1
  have HS := hide (samee_yes a b n c d xs ys _ (h.below hB) (k.below hB) he hn)
  have HB := hide hB
  clear h k he hB hb0 hb1
  go_enter Try.func12, Try.ntmps12
  go_wp2_with (go_at_call 32; refine HS.out.mono ?_; rintro e w2 ⟨rfl, hb2⟩)
  go_ret
  exact ⟨rfl, HB.out.trans (hb2.mono HB.out.size)⟩
theorem same_any (leaf : Bool) (a b : Option Addr) (n c d : Nat) (xs ys : List En) (w : World) (h : Ens w a n c xs) (k : Ens w b n d ys) (he : ers xs = ers ys) (hn : n ≤ 1000000) :
    Calls Try.prog 12 #[.agg #[.bool leaf, .slice a n c], .agg #[.bool leaf, .slice b n d]] w fun e w' => e = .returned (.bool true) ∧ Below w.heap.size w w' := by
  cases leaf with
  | true => exact same_yes a b n c d xs ys w h k he hn
  | false => exact same_no a b n c d xs ys w h k he hn
end Go.Proofs.Ytcflnkepopcofaa
