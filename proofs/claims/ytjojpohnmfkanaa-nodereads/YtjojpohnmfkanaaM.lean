/- Mathematics of nodes: numbers as bytes, the order of bytes, entries, how long they are, and as bytes. -/
import Derived.Test.YtjojpohnmfkanaaA
import Derived.WalkLawsBesides
namespace Go.Proofs.Ytjojpohnmfkanaa
open Go.RowKit
set_option linter.unusedVariables false
namespace Crc
/-- a number in k bytes, the lowest first. -/
def le : Nat → Nat → List Int
  | 0, _ => []
  | k + 1, n => ((n % 256 : Nat) : Int) :: le k (n / 256)
/-- the number that bytes are, the lowest first. -/
def leV : List Int → Nat
  | [] => 0
  | c :: t => c.toNat + 256 * leV t
def B8 (l : List Int) : Prop := ∀ c ∈ l, 0 ≤ c ∧ c ≤ 255
theorem B8.cons {c : Int} {t : List Int} (h : B8 (c :: t)) : (0 ≤ c ∧ c ≤ 255) ∧ B8 t := ⟨h c (by simp), fun d hd => h d (by simp [hd])⟩
theorem le_length (k n : Nat) : (le k n).length = k := by
  induction k generalizing n with
  | zero => rfl
  | succ k ih => simp [le, ih]
theorem le_b8 (k n : Nat) : B8 (le k n) := by
  induction k generalizing n with
  | zero => intro c hc; simp [le] at hc
  | succ k ih =>
    intro c hc
    simp only [le, List.mem_cons] at hc
    rcases hc with rfl | hc
    · omega
    · exact ih _ c hc
theorem le_zero (k : Nat) : le k 0 = List.replicate k 0 := by
  induction k with
  | zero => rfl
  | succ k ih => simp [le, ih, List.replicate_succ]
theorem leV_le (k n : Nat) (h : n < 256 ^ k) : leV (le k n) = n := by
  induction k generalizing n with
  | zero => simp at h; subst h; rfl
  | succ k ih =>
    have hn : n / 256 < 256 ^ k := by rw [Nat.pow_succ] at h; omega
    simp only [le, leV]
    rw [ih _ hn]; omega
theorem le_leV (l : List Int) (h : B8 l) : le l.length (leV l) = l := by
  induction l with
  | nil => rfl
  | cons c t ih =>
    obtain ⟨hc, ht⟩ := h.cons
    have e1 : (c.toNat + 256 * leV t) % 256 = c.toNat := by omega
    have e2 : (c.toNat + 256 * leV t) / 256 = leV t := by omega
    simp only [List.length_cons, le, leV]
    rw [e1, e2, ih ht]
    congr 1
    omega
theorem leV_lt (l : List Int) (h : B8 l) : leV l < 256 ^ l.length := by
  induction l with
  | nil => simp [leV]
  | cons c t ih =>
    obtain ⟨hc, ht⟩ := h.cons
    have := ih ht
    rw [leV, List.length_cons, Nat.pow_succ]
    omega
theorem le_inj (k a b : Nat) (ha : a < 256 ^ k) (hb : b < 256 ^ k) (h : le k a = le k b) : a = b := by
  have := congrArg leV h
  rwa [leV_le k a ha, leV_le k b hb] at this
end Crc
/-- bytes as a text. -/
def bk (ys : List Int) : ByteArray := ⟨(ys.map fun z => UInt8.ofNat z.toNat).toArray⟩
theorem bk_inj (xs ys : List Int) (hx : Byts xs) (hy : Byts ys) (h : bk xs = bk ys) : xs = ys := by
  have h1 : (xs.map fun z => UInt8.ofNat z.toNat) = ys.map fun z => UInt8.ofNat z.toNat := by
    have := congrArg (fun b : ByteArray => b.data.toList) h
    simpa [bk] using this
  have hback : ∀ l : List Int, Byts l → (l.map fun z => UInt8.ofNat z.toNat).map (fun b => (b.toNat : Int)) = l := by
    intro l hl
    rw [List.map_map]
    conv => rhs; rw [← List.map_id l]
    apply List.map_congr_left
    intro z hz
    have := hl z hz
    simp; omega
  rw [← hback xs hx, ← hback ys hy, h1]
/-- bytes compared. -/
def ordI : List Int → List Int → Int
  | [], [] => 0
  | [], _ :: _ => -1
  | _ :: _, [] => 1
  | x :: xs, y :: ys => if x < y then -1 else if y < x then 1 else ordI xs ys
theorem ordI_self (xs : List Int) : ordI xs xs = 0 := by
  induction xs with
  | nil => rfl
  | cons x xs ih => simp [ordI, ih]
theorem ordI_zero (xs ys : List Int) (h : ordI xs ys = 0) : xs = ys := by
  induction xs generalizing ys with
  | nil => cases ys with
    | nil => rfl
    | cons y ys => simp [ordI] at h
  | cons x xs ih => cases ys with
    | nil => simp [ordI] at h
    | cons y ys =>
      unfold ordI at h
      split at h
      · simp at h
      · split at h
        · simp at h
        · rw [ih ys h, show x = y by omega]
theorem ordI_nil (xs : List Int) : 0 ≤ ordI xs [] := by cases xs <;> simp [ordI]
theorem ordI_pre (pre xs ys : List Int) : ordI (pre ++ xs) (pre ++ ys) = ordI xs ys := by
  induction pre with
  | nil => rfl
  | cons p pre ih => simp [ordI, ih]
theorem ordI_begins (b z : List Int) : 0 ≤ ordI (b ++ z) b := by
  have := ordI_pre b z []
  rw [List.append_nil] at this
  rw [this]
  exact ordI_nil z
theorem bk_list (xs : List Int) : (bk xs).toList = xs.map fun z => UInt8.ofNat z.toNat := by
  rw [ByteArray.toList_eq]
  simp [bk]
theorem u8_lt (x y : Int) (hx : 0 ≤ x ∧ x ≤ 255) (hy : 0 ≤ y ∧ y ≤ 255) : (UInt8.ofNat x.toNat < UInt8.ofNat y.toNat) ↔ x < y := by
  rw [UInt8.lt_iff_toNat_lt]
  simp
  omega
theorem u8_eq (x y : Int) (hx : 0 ≤ x ∧ x ≤ 255) (hy : 0 ≤ y ∧ y ≤ 255) : (UInt8.ofNat x.toNat = UInt8.ofNat y.toNat) ↔ x = y := by
  constructor
  · intro h
    have := congrArg UInt8.toNat h
    simp at this
    omega
  · rintro rfl; rfl
theorem less_is (xs ys : List Int) (hx : Byts xs) (hy : Byts ys) : Op.bytesLess (xs.map fun z => UInt8.ofNat z.toNat) (ys.map fun z => UInt8.ofNat z.toNat) = decide (ordI xs ys < 0) := by
  induction xs generalizing ys with
  | nil => cases ys <;> simp [Op.bytesLess, ordI]
  | cons x xs ih => cases ys with
    | nil => simp [Op.bytesLess, ordI]
    | cons y ys =>
      have h1 := hx x (by simp)
      have h2 := hy y (by simp)
      have ih' := ih ys (fun c hc => hx c (by simp [hc])) (fun c hc => hy c (by simp [hc]))
      simp only [List.map_cons, Op.bytesLess, ih']
      rw [show ordI (x :: xs) (y :: ys) = if x < y then -1 else if y < x then 1 else ordI xs ys from rfl]
      have l1 := u8_lt x y h1 h2
      have l2 := u8_eq x y h1 h2
      by_cases hlt : x < y
      · simp [l1.2 hlt, hlt]
      · have hn : ¬ (UInt8.ofNat x.toNat < UInt8.ofNat y.toNat) := fun h => hlt (l1.1 h)
        by_cases he : x = y
        · subst he
          have hni : ¬ (UInt8.ofNat x.toNat < UInt8.ofNat x.toNat) := hn
          simp [hni]
        · have hne : ¬ (UInt8.ofNat x.toNat = UInt8.ofNat y.toNat) := fun h => he (l2.1 h)
          have hgt : y < x := by omega
          simp [hn, hne, hlt, hgt]
theorem eq_is (xs ys : List Int) (hx : Byts xs) (hy : Byts ys) : ((xs.map fun z => UInt8.ofNat z.toNat) == (ys.map fun z => UInt8.ofNat z.toNat)) = decide (xs = ys) := by
  rw [Bool.eq_iff_iff]
  simp only [beq_iff_eq, decide_eq_true_eq]
  constructor
  · intro h
    have : bk xs = bk ys := by unfold bk; rw [h]
    exact bk_inj xs ys hx hy this
  · rintro rfl; rfl
theorem ordI_cases (xs ys : List Int) : ordI xs ys = -1 ∨ ordI xs ys = 0 ∨ ordI xs ys = 1 := by
  induction xs generalizing ys with
  | nil => cases ys <;> simp [ordI]
  | cons x xs ih => cases ys with
    | nil => simp [ordI]
    | cons y ys =>
      unfold ordI
      split
      · simp
      · split
        · simp
        · exact ih ys
theorem text_less (xs ys : List Int) (hx : Byts xs) (hy : Byts ys) : Op.bytesLess (bk xs).toList (bk ys).toList = decide (ordI xs ys < 0) := by rw [bk_list, bk_list]; exact less_is xs ys hx hy
theorem text_eq (xs ys : List Int) (hx : Byts xs) (hy : Byts ys) : ((bk xs).toList == (bk ys).toList) = decide (xs = ys) := by rw [bk_list, bk_list]; exact eq_is xs ys hx hy
theorem ordI_anti (xs ys : List Int) : ordI ys xs = - ordI xs ys := by
  induction xs generalizing ys with
  | nil => cases ys <;> simp [ordI]
  | cons x xs ih => cases ys with
    | nil => simp [ordI]
    | cons y ys =>
      unfold ordI
      by_cases h : x < y
      · have : ¬ y < x := by omega
        simp [h, this]
      · by_cases h' : y < x
        · simp [h, h']
        · simp [h, h', ih ys]
theorem ordI_trans (xs ys zs : List Int) (h1 : ordI xs ys ≤ 0) (h2 : ordI ys zs ≤ 0) : ordI xs zs ≤ 0 := by
  induction xs generalizing ys zs with
  | nil => cases zs <;> simp [ordI]
  | cons x xs ih => cases ys with
    | nil => simp [ordI] at h1
    | cons y ys => cases zs with
      | nil => simp [ordI] at h2
      | cons z zs =>
        unfold ordI at h1 h2 ⊢
        by_cases a1 : x < y
        · by_cases a2 : y < z
          · have : x < z := by omega
            simp [this]
          · by_cases a3 : z < y
            · simp [a2, a3] at h2
            · have : x < z := by omega
              simp [this]
        · by_cases a2 : y < x
          · simp [a1, a2] at h1
          · by_cases b1 : y < z
            · have : x < z := by omega
              simp [this]
            · by_cases b2 : z < y
              · simp [b1, b2] at h2
              · have c1 : ¬ x < z := by omega
                have c2 : ¬ z < x := by omega
                simp [a1, a2, b1, b2, c1, c2] at h1 h2 ⊢
                exact ih ys zs h1 h2
theorem ordI_trans_lt (xs ys zs : List Int) (h1 : ordI xs ys < 0) (h2 : ordI ys zs ≤ 0) : ordI xs zs < 0 := by
  have h3 := ordI_trans xs ys zs (by omega) h2
  rcases Int.lt_or_eq_of_le h3 with h | h
  · exact h
  · have e := ordI_zero xs zs h
    subst e
    have := ordI_anti xs ys
    omega
theorem ordI_nilr (xs : List Int) : 0 < ordI xs [] ↔ xs ≠ [] := by cases xs <;> simp [ordI]

/-- an entry: what it holds. -/
structure Ee where
  key : List Int
  val : List Int
  page : Nat
  size : Nat
deriving DecidableEq
instance : Inhabited Ee := ⟨⟨[], [], 0, 0⟩⟩
/-- how many bytes an entry takes. -/
def Ee.sz (leaf : Bool) (e : Ee) : Nat := if leaf then (if e.page = 0 then 2 + e.key.length + e.val.length else 10 + e.key.length) else 5 + e.key.length
/-- the sum of the entries' bytes. -/
def esum (leaf : Bool) (es : List Ee) : Nat := (es.map (Ee.sz leaf)).sum
/-- how many bytes a node takes. -/
def nsz (leaf : Bool) (es : List Ee) : Nat := 2 + esum leaf es
theorem esum_nil (leaf : Bool) : esum leaf [] = 0 := rfl
theorem esum_cons (leaf : Bool) (e : Ee) (es : List Ee) : esum leaf (e :: es) = e.sz leaf + esum leaf es := by simp [esum]
theorem esum_app (leaf : Bool) (xs ys : List Ee) : esum leaf (xs ++ ys) = esum leaf xs + esum leaf ys := by simp [esum]
/-- how many bytes the keys and values have. -/
def wts (es : List Ee) : Nat := (es.map fun e => e.key.length + e.val.length).sum
theorem wts_app (xs ys : List Ee) : wts (xs ++ ys) = wts xs + wts ys := by simp [wts]
theorem wts_cons (e : Ee) (es : List Ee) : wts (e :: es) = e.key.length + e.val.length + wts es := by simp [wts]
theorem wts_mem {es : List Ee} {e : Ee} (h : e ∈ es) : e.key.length + e.val.length ≤ wts es := by
  induction es with
  | nil => simp at h
  | cons x xs ih =>
    rw [wts_cons]
    rcases List.mem_cons.1 h with rfl | h
    · omega
    · have := ih h; omega
theorem sz_le (leaf : Bool) (e : Ee) : e.sz leaf ≤ 10 + (e.key.length + e.val.length) := by
  unfold Ee.sz; split
  · split <;> omega
  · omega
theorem esum_le (leaf : Bool) (es : List Ee) : esum leaf es ≤ 10 * es.length + wts es := by
  induction es with
  | nil => simp [esum]
  | cons x xs ih =>
    rw [esum_cons, wts_cons, List.length_cons]
    have := sz_le leaf x
    omega
/-- keys of no more than 160 bytes, each above the one ahead. -/
def keysOk : List Int → List Ee → Bool
  | _, [] => true
  | a, e :: r => decide (e.key.length ≤ 160) && (decide (0 < ordI e.key a) && keysOk e.key r)
def pageOk (p : Nat) : Bool := decide (2 ≤ p) && decide (p < 16384)
def Ee.small (e : Ee) : Bool := decide (e.val.length ≤ 64) && (decide (e.page = 0) && decide (e.size = 0))
def Ee.great (e : Ee) : Bool := decide (e.val.length = 0) && (pageOk e.page && (decide (64 < e.size) && decide (e.size ≤ 8192)))
def Ee.valOk (e : Ee) : Bool := e.small || e.great
def Ee.kid (e : Ee) : Bool := decide (e.val.length = 0) && (pageOk e.page && decide (e.size = 0))
/-- may a node be, of whatever size? -/
def mayB (leaf : Bool) (es : List Ee) : Bool :=
  match es with
  | [] => false
  | e :: r => if leaf then keysOk [] (e :: r) && (e :: r).all Ee.valOk else decide (e.key.length = 0) && (keysOk [] r && ((e :: r).all Ee.kid && decide ((e :: r).map Ee.page).Nodup))
/-- what Check answers. -/
def chk (leaf : Bool) (es : List Ee) : Nat := if mayB leaf es then (if nsz leaf es ≤ 1008 then 0 else 91) else 90
/-- an entry as bytes. -/
def Ee.enc (leaf : Bool) (e : Ee) : List Int :=
  (e.key.length : Int) :: (e.key ++ (if leaf then (if e.page = 0 then (e.val.length : Int) :: e.val else 255 :: (Crc.le 4 e.size ++ Crc.le 4 e.page)) else Crc.le 4 e.page))
def encs (leaf : Bool) (es : List Ee) : List Int := es.flatMap (Ee.enc leaf)
/-- a node as bytes. -/
def nenc (leaf : Bool) (es : List Ee) : List Int := Crc.le 2 es.length ++ encs leaf es
theorem enc_length (leaf : Bool) (e : Ee) : (e.enc leaf).length = e.sz leaf := by
  unfold Ee.enc Ee.sz
  cases leaf with
  | false => simp [Crc.le_length]; omega
  | true =>
    by_cases h : e.page = 0
    · simp [h]; omega
    · simp [h, Crc.le_length]; omega
theorem encs_length (leaf : Bool) (es : List Ee) : (encs leaf es).length = esum leaf es := by
  induction es with
  | nil => rfl
  | cons e es ih =>
    rw [esum_cons, ← ih, ← enc_length]
    simp [encs]
theorem nenc_length (leaf : Bool) (es : List Ee) : (nenc leaf es).length = nsz leaf es := by
  unfold nenc nsz
  rw [List.length_append, Crc.le_length, encs_length]
theorem encs_app (leaf : Bool) (xs ys : List Ee) : encs leaf (xs ++ ys) = encs leaf xs ++ encs leaf ys := by simp [encs]
end Go.Proofs.Ytjojpohnmfkanaa
