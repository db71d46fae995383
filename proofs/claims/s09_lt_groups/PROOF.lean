import PyProof.Rows.All
import Wide.All
import OpenK.AllK
import Wide.FinOn
import Open.SpecLaws
import KE.OsGo
import HandS.ForSpec
import HandS.Comp
import HandS.Iter
import HandS.Text
import HandS.Walk
import HandS.SortKw
import KE.DataMinMax
import HandS.SetFor
import HandS.SortRule
import PySem.Challenge.RW_likelettersdesk_s09_lt_groups
set_option Elab.async false
namespace Lt

/-! ### how many ones a number has -/
def pop (n : Nat) : Nat := if h : n = 0 then 0 else n % 2 + pop (n / 2)
termination_by n
decreasing_by exact Nat.div_lt_self (by omega) (by omega)
theorem pop_zero : pop 0 = 0 := by rw [pop]; rfl
theorem pop_eq (n : Nat) : pop n = n % 2 + pop (n / 2) := by
  by_cases h : n = 0
  · subst h
    rw [show 0 / 2 = 0 from rfl, pop_zero]
  · rw [pop, dif_neg h]
theorem and_split (a b : Nat) : a &&& b = 2 * (a / 2 &&& b / 2) + (a % 2 &&& b % 2) := by
  have h1 : (a &&& b) / 2 = a / 2 &&& b / 2 := Nat.and_div_two
  have h2 : (a &&& b) % 2 = (a % 2) &&& (b % 2) := by
    have := Nat.and_mod_two_pow (a := a) (b := b) (n := 1)
    simpa using this
  omega
theorem bit_and {a b : Nat} (ha : a < 2) (hb : b < 2) : a &&& b = a * b := by
  have h1 : a = 0 ∨ a = 1 := by omega
  have h2 : b = 0 ∨ b = 1 := by omega
  rcases h1 with rfl | rfl <;> rcases h2 with rfl | rfl <;> rfl
theorem clear_even {n m : Nat} (h : n = 2 * m) (hm : 0 < m) : n &&& (n - 1) = 2 * (m &&& (m - 1)) := by
  rw [and_split, show n / 2 = m by omega, show (n - 1) / 2 = m - 1 by omega, show n % 2 = 0 by omega, Nat.zero_and, Nat.add_zero]
theorem clear_odd {n m : Nat} (h : n = 2 * m + 1) : n &&& (n - 1) = 2 * m := by
  rw [and_split, show n / 2 = m by omega, show (n - 1) / 2 = m by omega, show (n - 1) % 2 = 0 by omega, Nat.and_zero, Nat.add_zero, Nat.and_self]
theorem pop_dbl (m : Nat) : pop (2 * m) = pop m := by
  rw [pop_eq, show 2 * m % 2 = 0 by omega, show 2 * m / 2 = m by omega, Nat.zero_add]
theorem pop_dbl1 (m : Nat) : pop (2 * m + 1) = pop m + 1 := by
  rw [pop_eq, show (2 * m + 1) % 2 = 1 by omega, show (2 * m + 1) / 2 = m by omega, Nat.add_comm]
/-- the lowest one goes -/
theorem pop_clear (n : Nat) (h : 0 < n) : pop (n &&& (n - 1)) + 1 = pop n := by
  induction n using Nat.strongRecOn with
  | _ n ih =>
    rcases Nat.mod_two_eq_zero_or_one n with e | e
    · obtain ⟨m, rfl⟩ : ∃ m, n = 2 * m := ⟨n / 2, by omega⟩
      have hm : 0 < m := by omega
      rw [clear_even rfl hm, pop_dbl, pop_dbl]
      exact ih m (by omega) hm
    · obtain ⟨m, rfl⟩ : ∃ m, n = 2 * m + 1 := ⟨n / 2, by omega⟩
      rw [clear_odd rfl, pop_dbl, pop_dbl1]
theorem clear_lt {n : Nat} (h : 0 < n) : n &&& (n - 1) < n := Nat.lt_of_le_of_lt Nat.and_le_right (by omega)

/-! ### by places -/
def cnt (k : Nat) (p : Nat → Bool) : Nat := ((List.range k).filter p).length
theorem cnt_zero (p : Nat → Bool) : cnt 0 p = 0 := rfl
theorem cnt_succ (k : Nat) (p : Nat → Bool) : cnt (k + 1) p = (if p 0 then 1 else 0) + cnt k (fun i => p (i + 1)) := by
  unfold cnt
  rw [List.range_succ_eq_map, List.filter_cons, List.filter_map, apply_ite List.length, List.length_cons, List.length_map]
  show (if p 0 = true then (List.filter (fun i => p (i + 1)) (List.range k)).length + 1 else (List.filter (fun i => p (i + 1)) (List.range k)).length) = _
  split <;> omega
theorem cnt_congr {k : Nat} {p q : Nat → Bool} (h : ∀ i, i < k → p i = q i) : cnt k p = cnt k q := by
  unfold cnt
  exact congrArg List.length (List.filter_congr fun i hi => h i (List.mem_range.mp hi))
theorem cnt_le (k : Nat) (p : Nat → Bool) : cnt k p ≤ k := by
  unfold cnt
  exact Nat.le_trans (List.length_filter_le _ _) (Nat.le_of_eq List.length_range)
theorem pop_cnt : ∀ (k n : Nat), n < 2 ^ k → pop n = cnt k n.testBit
  | 0, n, h => by
    have : n = 0 := by simpa using h
    rw [this, pop_zero, cnt_zero]
  | k + 1, n, h => by
    rw [pop_eq, pop_cnt k (n / 2) (by rw [Nat.pow_succ] at h; omega), cnt_succ]
    have e : (fun i => n.testBit (i + 1)) = (n / 2).testBit := by
      funext i
      exact Nat.testBit_succ n i
    rw [e]
    have e0 : n % 2 = if n.testBit 0 = true then 1 else 0 := by
      rw [Nat.testBit_zero]
      rcases Nat.mod_two_eq_zero_or_one n with z | z <;> simp [z]
    omega
theorem bitOf (n i : Nat) : (n / 2 ^ i % 2 == 1) = n.testBit i := by
  rw [Nat.testBit_eq_decide_div_mod_eq]
  rfl

/-! ### w & ~v -/
theorem less_split (w v : Nat) : w - (w &&& v) = 2 * (w / 2 - (w / 2 &&& v / 2)) + (w % 2 - (w % 2 &&& v % 2)) := by
  have h := and_split w v
  have h1 : w / 2 &&& v / 2 ≤ w / 2 := Nat.and_le_left
  have h2 : w % 2 &&& v % 2 ≤ w % 2 := Nat.and_le_left
  omega
theorem testBit_less (i : Nat) : ∀ w v : Nat, (w - (w &&& v)).testBit i = (w.testBit i && !v.testBit i) := by
  induction i with
  | zero =>
    intro w v
    rw [less_split, Nat.testBit_zero, Nat.testBit_zero, Nat.testBit_zero]
    rw [bit_and (Nat.mod_lt _ (by omega)) (Nat.mod_lt _ (by omega))]
    rcases Nat.mod_two_eq_zero_or_one w with a | a <;> rcases Nat.mod_two_eq_zero_or_one v with b | b <;> rw [a, b] <;> simp <;> omega
  | succ i ih =>
    intro w v
    rw [Nat.testBit_succ, Nat.testBit_succ, Nat.testBit_succ, ← ih]
    congr 1
    rw [less_split w v]
    have h2 : w % 2 &&& v % 2 ≤ w % 2 := Nat.and_le_left
    omega

/-! ### a word of bits -/
def word : List Bool → Nat
  | [] => 0
  | b :: r => b.toNat + 2 * word r
theorem word_lt : ∀ l : List Bool, word l < 2 ^ l.length
  | [] => by decide
  | b :: r => by
    have ih := word_lt r
    have hb : b.toNat ≤ 1 := Bool.toNat_le b
    show b.toNat + 2 * word r < 2 ^ (r.length + 1)
    rw [Nat.pow_succ]
    omega
theorem word_snoc : ∀ (l : List Bool) (b : Bool), word (l ++ [b]) = word l + b.toNat * 2 ^ l.length
  | [], b => by simp [word]
  | c :: r, b => by
    show c.toNat + 2 * word (r ++ [b]) = c.toNat + 2 * word r + b.toNat * 2 ^ (r.length + 1)
    have e : b.toNat * 2 ^ (r.length + 1) = 2 * (b.toNat * 2 ^ r.length) := by
      rw [Nat.pow_succ, ← Nat.mul_assoc, Nat.mul_comm]
    rw [word_snoc r b, e]
    omega
theorem word_bit : ∀ (l : List Bool) (i : Nat), (word l).testBit i = l.getD i false
  | [], i => by simp [word]
  | c :: r, 0 => by
    show (c.toNat + 2 * word r).testBit 0 = c
    rw [Nat.testBit_zero]
    cases c <;> simp
  | c :: r, i + 1 => by
    rw [Nat.testBit_succ]
    have : word (c :: r) / 2 = word r := by
      show (c.toNat + 2 * word r) / 2 = word r
      have := Bool.toNat_le c
      omega
    rw [this, word_bit r i]
    rfl
/-- as the specification says it -/
theorem word_sum (l : List Bool) : word l = ((List.range l.length).map fun i => if l.getD i false = true then 2 ^ i else 0).sum := by
  induction l with
  | nil => rfl
  | cons c r ih =>
    rw [List.length_cons, List.range_succ_eq_map, List.map_cons, List.sum_cons, List.map_map]
    have e : ((fun i => if (c :: r).getD i false = true then 2 ^ i else 0) ∘ Nat.succ) = fun i => 2 * (if r.getD i false = true then 2 ^ i else 0) := by
      funext i
      show (if r.getD i false = true then 2 ^ (i + 1) else 0) = _
      rw [Nat.pow_succ]
      split <;> omega
    rw [e]
    have m2 : ∀ (f : Nat → Nat) (l : List Nat), (l.map fun i => 2 * f i).sum = 2 * (l.map f).sum := by
      intro f l
      induction l with
      | nil => rfl
      | cons a s hs =>
        rw [List.map_cons, List.map_cons, List.sum_cons, List.sum_cons, hs]
        omega
    rw [m2 (fun i => if r.getD i false = true then 2 ^ i else 0), ← ih]
    show c.toNat + 2 * word r = _
    cases c <;> rfl

/-! ### numbers as the request has them -/
def iL (l : List Nat) : List Int := l.map fun (n : Nat) => (n : Int)
theorem iL_sum : ∀ l : List Nat, (iL l).sum = (l.sum : Int)
  | [] => rfl
  | a :: r => by
    show ((a : Int) :: iL r).sum = ((a :: r).sum : Nat)
    rw [List.sum_cons, List.sum_cons, iL_sum r, Int.natCast_add]
/-- a list of ints that are not negative is one of naturals -/
theorem iL_of : ∀ l : List Int, (∀ z ∈ l, 0 ≤ z) → l = iL (l.map Int.toNat)
  | [], _ => rfl
  | a :: r, h => by
    have h0 := h a List.mem_cons_self
    show a :: r = ((a.toNat : Nat) : Int) :: iL (r.map Int.toNat)
    rw [← iL_of r fun z hz => h z (List.mem_cons_of_mem _ hz), Int.toNat_of_nonneg h0]

theorem iL_length (l : List Nat) : (iL l).length = l.length := List.length_map ..
theorem nats_iL : ∀ l : List Nat, Sh60Neutral.nats (iL l) = l
  | [] => rfl
  | a :: r => by
    show ((a : Int).toNat) :: Sh60Neutral.nats (iL r) = a :: r
    rw [nats_iL r, Int.toNat_natCast]
theorem all_iL {b : Nat} : ∀ {l : List Nat}, (iL l).all (fun z => Sh60Neutral.natural z b) = true → ∀ x ∈ l, x < 2 ^ b
  | [], _, x, h => by cases h
  | a :: r, h, x, hx => by
    have h' : (Sh60Neutral.natural (a : Int) b && (iL r).all fun z => Sh60Neutral.natural z b) = true := h
    rw [Bool.and_eq_true] at h'
    rcases List.mem_cons.mp hx with rfl | hx
    · have q := h'.1
      unfold Sh60Neutral.natural at q
      rw [Bool.and_eq_true] at q
      have q2 := of_decide_eq_true q.2
      have e : ((2 : Int) ^ b) = ((2 ^ b : Nat) : Int) := by rw [Int.natCast_pow]; rfl
      rw [e] at q2
      exact Int.ofNat_lt.mp q2
    · exact all_iL h'.2 x hx
theorem natural_nat {z : Int} {b : Nat} (h : Sh60Neutral.natural z b = true) : ∃ n : Nat, z = n ∧ n < 2 ^ b := by
  unfold Sh60Neutral.natural at h
  rw [Bool.and_eq_true] at h
  have h0 := of_decide_eq_true h.1
  have h1 := of_decide_eq_true h.2
  obtain ⟨n, rfl⟩ := Int.eq_ofNat_of_zero_le h0
  have e : ((2 : Int) ^ b) = ((2 ^ b : Nat) : Int) := by rw [Int.natCast_pow]; rfl
  rw [e] at h1
  exact ⟨n, rfl, Int.ofNat_lt.mp h1⟩
theorem nats_of {b : Nat} (l : List Int) (h : l.all (fun z => Sh60Neutral.natural z b) = true) : ∃ xs : List Nat, l = iL xs ∧ ∀ x ∈ xs, x < 2 ^ b := by
  refine ⟨l.map Int.toNat, ?_, ?_⟩
  · refine iL_of l fun z hz => ?_
    obtain ⟨n, rfl, _⟩ := natural_nat (List.all_eq_true.mp h z hz)
    exact Int.natCast_nonneg n
  · intro x hx
    obtain ⟨z, hz, rfl⟩ := List.mem_map.mp hx
    obtain ⟨n, rfl, hn⟩ := natural_nat (List.all_eq_true.mp h z hz)
    exact hn
end Lt
namespace Lt
open Sh60 (num glyph glyphs SIDE starts)

/-! ### rows of one length, one behind the other -/
theorem grid_len {α : Type} (f : Nat → Nat → α) (k : Nat) : ∀ n, ((List.range n).flatMap fun j => (List.range k).map (f j)).length = k * n
  | 0 => rfl
  | n + 1 => by
    rw [List.range_succ, List.flatMap_append, List.length_append, grid_len f k n, List.flatMap_cons, List.flatMap_nil, List.append_nil, List.length_map, List.length_range, Nat.mul_succ]
theorem grid_get {α : Type} (f : Nat → Nat → α) (k : Nat) : ∀ n j i, j < n → i < k → ((List.range n).flatMap fun j => (List.range k).map (f j))[k * j + i]? = some (f j i)
  | 0, j, i, h, _ => by omega
  | n + 1, j, i, h, hi => by
    rw [List.range_succ, List.flatMap_append, List.flatMap_cons, List.flatMap_nil, List.append_nil]
    by_cases e : j < n
    · rw [List.getElem?_append_left, grid_get f k n j i e hi]
      rw [grid_len]
      have : k * (j + 1) ≤ k * n := Nat.mul_le_mul_left k e
      rw [Nat.mul_succ] at this
      omega
    · have e' : j = n := by omega
      subst e'
      rw [List.getElem?_append_right (by rw [grid_len]; omega), grid_len, Nat.add_sub_cancel_left, List.getElem?_map, List.getElem?_range hi]
      rfl
theorem glyph_at (g : List Nat) {j i : Nat} (hj : j < 16) (hi : i < 16) : (glyph g).getD (16 * j + i) false = (num g j).testBit i := by
  have h : (glyph g)[16 * j + i]? = some (num g j / 2 ^ i % 2 == 1) := grid_get (fun j i => num g j / 2 ^ i % 2 == 1) 16 16 j i hj hi
  rw [List.getD_eq_getElem?_getD, h, Option.getD_some, bitOf]
/-- filter's length over such rows -/
theorem count_rows {α : Type} (p : α → Bool) (F : Nat → List α) : ∀ l : List Nat, ((l.flatMap F).filter p).length = (l.map fun j => ((F j).filter p).length).sum
  | [] => rfl
  | a :: r => by
    rw [List.flatMap_cons, List.filter_append, List.length_append, count_rows p F r, List.map_cons, List.sum_cons]
theorem zip_rows {α β : Type} (F : Nat → List α) (G : Nat → List β) (h : ∀ j, (F j).length = (G j).length) : ∀ l : List Nat, (l.flatMap F).zip (l.flatMap G) = l.flatMap fun j => (F j).zip (G j)
  | [] => rfl
  | a :: r => by
    rw [List.flatMap_cons, List.flatMap_cons, List.flatMap_cons, List.zip_append (h a), zip_rows F G h r]
theorem zip_same {α β γ : Type} (f : γ → α) (g : γ → β) : ∀ l : List γ, (l.map f).zip (l.map g) = l.map fun x => (f x, g x)
  | [] => rfl
  | a :: r => by
    rw [List.map_cons, List.map_cons, List.map_cons, List.zip_cons_cons, zip_same f g r]
theorem cnt_map {α : Type} (k : Nat) (f : Nat → α) (p : α → Bool) : (((List.range k).map f).filter p).length = cnt k fun i => p (f i) := by
  rw [List.filter_map, List.length_map]
  rfl

/-! ### lt_apart -/
theorem apart_is (a b : List Nat) (ha : ∀ j, j < 16 → num a j < 65536) (hb : ∀ j, j < 16 → num b j < 65536) :
    Sh60.apart (glyph a) (glyph b) = ((List.range 16).map fun j => pop (num a j ^^^ num b j)).sum := by
  unfold Sh60.apart glyph
  rw [zip_rows _ _ (fun j => by rw [List.length_map, List.length_map]), count_rows]
  refine congrArg List.sum (List.map_congr_left fun j hj => ?_)
  have hj' : j < 16 := List.mem_range.mp hj
  rw [zip_same, cnt_map, pop_cnt 16 _ (Nat.xor_lt_two_pow (ha j hj') (hb j hj'))]
  refine cnt_congr fun i _ => ?_
  rw [bitOf, bitOf, Nat.testBit_xor]

/-! ### lt_crossings -/
def runs (w : Nat) : Nat := pop (w - (w &&& (2 * w)))
theorem starts_is (l : List Bool) : starts l = runs (word l) := by
  unfold starts runs
  rw [pop_cnt l.length _ (Nat.lt_of_le_of_lt (Nat.sub_le _ _) (word_lt l))]
  show cnt l.length _ = _
  refine cnt_congr fun i _ => ?_
  rw [testBit_less, word_bit]
  refine congrArg (l.getD i false && ·) ?_
  cases i with
  | zero =>
    rw [Nat.testBit_zero, Nat.mul_mod_right]
    rfl
  | succ i =>
    rw [Nat.testBit_succ, Nat.mul_div_cancel_left _ (by omega), word_bit]
    rfl
theorem word_of_bits {n k : Nat} (h : n < 2 ^ k) : word ((List.range k).map n.testBit) = n := by
  refine Nat.eq_of_testBit_eq fun i => ?_
  rw [word_bit, List.getD_eq_getElem?_getD, List.getElem?_map]
  by_cases hi : i < k
  · rw [List.getElem?_range hi]
    rfl
  · rw [List.getElem?_eq_none (by rw [List.length_range]; omega)]
    exact (Nat.testBit_lt_two_pow (Nat.lt_of_lt_of_le h (Nat.pow_le_pow_right (by omega) (by omega)))).symm
/-- the columns' words -/
def column (g : List Nat) (i : Nat) : Nat := word (g.map fun r => r.testBit i)
theorem map_num {α : Type} (f : Nat → α) (g : List Nat) (h : g.length = 16) : (List.range 16).map (fun j => f (num g j)) = g.map f := by
  refine List.ext_getElem? fun j => ?_
  rw [List.getElem?_map, List.getElem?_map]
  by_cases hj : j < 16
  · rw [List.getElem?_range hj, List.getElem?_eq_getElem (show j < g.length by omega)]
    show some (f (g.getD j 0)) = _
    rw [List.getD_eq_getElem?_getD, List.getElem?_eq_getElem (show j < g.length by omega)]
    rfl
  · rw [List.getElem?_eq_none (by rw [List.length_range]; omega), List.getElem?_eq_none (show g.length ≤ j by omega)]
    rfl
theorem crossings_is (g : List Nat) (hl : g.length = 16) (hg : ∀ x ∈ g, x < 65536) :
    Sh60.crossings (glyph g) = (g ++ (List.range 16).map (column g)).map runs := by
  unfold Sh60.crossings
  rw [List.map_append, List.map_map]
  refine congr (congrArg HAppend.hAppend ?_) ?_
  · rw [← map_num runs g hl]
    refine List.map_congr_left fun j hj => ?_
    have hj' : j < 16 := List.mem_range.mp hj
    rw [starts_is]
    refine congrArg runs ?_
    have hn : num g j < 2 ^ 16 := by
      unfold num
      rw [List.getD_eq_getElem?_getD, List.getElem?_eq_getElem (show j < g.length by omega)]
      exact hg _ (List.getElem_mem _)
    refine Eq.trans ?_ (word_of_bits hn)
    refine congrArg word (List.map_congr_left fun i hi => ?_)
    exact glyph_at g hj' (List.mem_range.mp hi)
  · refine List.map_congr_left fun i hi => ?_
    have hi' : i < 16 := List.mem_range.mp hi
    rw [starts_is]
    show runs _ = runs (column g i)
    unfold column
    rw [← map_num (fun r => r.testBit i) g hl]
    refine congrArg runs (congrArg word (List.map_congr_left fun j hj => ?_))
    exact glyph_at g (List.mem_range.mp hj) hi'

/-! ### what is due of lt_apart -/
def far (xs ys : List Nat) : Nat := ((xs.zip ys).map fun p => pop (p.1 ^^^ p.2)).sum
def letter (xs : List Nat) (k : Nat) : List Nat := (xs.drop (16 * k)).take 16
theorem num_lt {l : List Nat} {B : Nat} (h : ∀ x ∈ l, x < B) {j : Nat} (hj : j < l.length) : num l j < B := by
  unfold num
  rw [List.getD_eq_getElem?_getD, List.getElem?_eq_getElem hj]
  exact h _ (List.getElem_mem _)
theorem apart_far (L ys : List Nat) (hL : L.length = 16) (hy : ys.length = 16) (bL : ∀ x ∈ L, x < 65536) (bY : ∀ x ∈ ys, x < 65536) : Sh60.apart (glyph ys) (glyph L) = far L ys := by
  rw [apart_is ys L (fun j hj => num_lt bY (by omega)) (fun j hj => num_lt bL (by omega))]
  unfold far
  refine congrArg List.sum (List.ext_getElem? fun j => ?_)
  rw [List.getElem?_map, List.getElem?_map]
  by_cases hj : j < 16
  · have e : (L.zip ys)[j]? = some (L[j]'(by omega), ys[j]'(by omega)) := List.getElem?_zip_eq_some.mpr ⟨List.getElem?_eq_getElem _, List.getElem?_eq_getElem _⟩
    rw [List.getElem?_range hj, e]
    show some (pop (ys.getD j 0 ^^^ L.getD j 0)) = _
    rw [List.getD_eq_getElem?_getD, List.getD_eq_getElem?_getD, List.getElem?_eq_getElem (show j < L.length by omega), List.getElem?_eq_getElem (show j < ys.length by omega)]
    show some (pop (ys[j] ^^^ L[j])) = some (pop (L[j] ^^^ ys[j]))
    rw [Nat.xor_comm]
  · rw [List.getElem?_eq_none (by rw [List.length_range]; omega), List.getElem?_eq_none (by rw [List.length_zip]; omega)]
    rfl
theorem letter_len {xs : List Nat} {n k : Nat} (h : xs.length = 16 * n) (hk : k < n) : (letter xs k).length = 16 := by
  unfold letter
  rw [List.length_take, List.length_drop]
  omega
theorem letter_mem {xs : List Nat} {k x : Nat} (h : x ∈ letter xs k) : x ∈ xs := List.mem_of_mem_drop (List.mem_of_mem_take h)
theorem some_is (n : Nat) : Sh60.some_ n = (decide (1 ≤ n) && decide (n ≤ 256)) := rfl
theorem due_apart (font a : List Int) (h : PySh60.lt_apart_asked font a = true) : ∃ (xs ys : List Nat) (n : Nat), font = iL xs ∧ a = iL ys ∧ xs.length = 16 * n ∧ ys.length ≤ 16 ∧
    PySh60.lt_apart font a = if Sh60.some_ n = true then 0 :: iL ((List.range n).map fun k => far (letter xs k) ys) else [-2] := by
  have h1 : Sh60Neutral.asked1 [[3], font, a] = true := (Bool.and_eq_true _ _ ▸ (show (Sh60Neutral.asked1 [[3], font, a] && _) = true from h)).1
  have h2 : (font.all (fun z => Sh60Neutral.natural z 16) && (a.all (fun z => Sh60Neutral.natural z 16) && (if Sh60.some_ ((Sh60Neutral.nats font).length / 16) = true then font.length == (16 * ((Sh60Neutral.nats font).length / 16)) && a.length == 16 else (font.isEmpty && a.isEmpty) || (font.length == (16 * ((Sh60Neutral.nats font).length / 16)) && a.length == 16)))) = true := h1
  rw [Bool.and_eq_true, Bool.and_eq_true] at h2
  obtain ⟨b1, b2, b3⟩ := h2
  obtain ⟨xs, rfl, hx⟩ := nats_of font b1
  obtain ⟨ys, rfl, hy⟩ := nats_of a b2
  rw [nats_iL, iL_length, iL_length] at b3
  have due : PySh60.lt_apart (iL xs) (iL ys) = Sh60Neutral.told (Sh60.answer (if Sh60.some_ ((Sh60Neutral.nats (iL xs)).length / 16) = true then .apart (Sh60Neutral.nats (iL xs)) (Sh60Neutral.nats (iL ys)) else .bad)) := rfl
  rw [nats_iL, nats_iL] at due
  refine ⟨xs, ys, xs.length / 16, rfl, rfl, ?_, ?_, ?_⟩
  · split at b3
    · simp only [Bool.and_eq_true, beq_iff_eq] at b3
      omega
    · simp only [Bool.or_eq_true, Bool.and_eq_true, beq_iff_eq] at b3
      rcases b3 with ⟨z, _⟩ | ⟨z, _⟩
      · have : xs = [] := by
          cases xs with
          | nil => rfl
          | cons c r => cases z
        subst this
        rfl
      · omega
  · split at b3
    · simp only [Bool.and_eq_true, beq_iff_eq] at b3
      omega
    · simp only [Bool.or_eq_true, Bool.and_eq_true, beq_iff_eq] at b3
      rcases b3 with ⟨_, z⟩ | ⟨_, z⟩
      · have : ys = [] := by
          cases ys with
          | nil => rfl
          | cons c r => cases z
        subst this
        exact Nat.zero_le _
      · omega
  · rw [due]
    by_cases c : Sh60.some_ (xs.length / 16) = true
    · rw [if_pos c, if_pos c]
      rw [if_pos c] at b3
      simp only [Bool.and_eq_true, beq_iff_eq] at b3
      show (0 : Int) :: iL ((glyphs xs).map (Sh60.apart (glyph ys))) = _
      refine congrArg (fun l => (0 : Int) :: iL l) ?_
      unfold Sh60.glyphs
      rw [List.map_map]
      refine List.map_congr_left fun k hk => ?_
      have hk' : k < xs.length / 16 := List.mem_range.mp hk
      exact apart_far (letter xs k) ys (letter_len b3.1 hk') b3.2 (fun x hx' => hx x (letter_mem hx')) hy
    · rw [if_neg c, if_neg c]
      rfl

/-! ### what is due of lt_crossings -/
theorem due_crossings (a : List Int) (h : PySh60.lt_crossings_asked a = true) : ∃ xs : List Nat, a = iL xs ∧ xs.length = 16 ∧ (∀ x ∈ xs, x < 65536) ∧
    PySh60.lt_crossings a = 0 :: iL ((xs ++ (List.range 16).map (column xs)).map runs) := by
  have h1 : Sh60Neutral.asked1 [[2], a] = true := (Bool.and_eq_true _ _ ▸ (show (Sh60Neutral.asked1 [[2], a] && _) = true from h)).1
  have h2 : (a.all (fun z => Sh60Neutral.natural z 16) && (a.length == 16)) = true := h1
  rw [Bool.and_eq_true] at h2
  obtain ⟨xs, rfl, hx⟩ := nats_of a h2.1
  have hl : xs.length = 16 := by
    have := h2.2
    rw [iL_length, beq_iff_eq] at this
    exact this
  refine ⟨xs, rfl, hl, hx, ?_⟩
  rw [← crossings_is xs hl hx]
  show (0 : Int) :: iL (Sh60.crossings (glyph (Sh60Neutral.nats (iL xs)))) = _
  rw [nats_iL]
end Lt
set_option linter.all false
set_option maxRecDepth 100000
set_option maxHeartbeats 4000000
namespace Lt
open PySem PySem.Spec PyProof.Rows L2

/-! ### lists of numbers as values -/
abbrev nV (n : Nat) : V := .int (n : Int)
theorem nV_iL (l : List Nat) : l.map nV = (iL l).map V.int := by
  unfold iL
  rw [List.map_map]
  rfl
/-! ### heaps -/
theorem same_upd {H : Hp} {p : Addr} {o : HO} (h : H p = none) : Same H (upd H p o) := fun b x e => by
  rw [upd_ne (ne_of_none e h)]
  exact e
/-- a store to p, which was not there at the start -/
theorem Same.put {H H' : Hp} {p : Addr} {o : HO} (s : Same H H') (h : H p = none) : Same H (upd H' p o) := fun b x e => by
  rw [upd_ne (ne_of_none e h)]
  exact s b x e
/-- all but B stands -/
def Keep (B : Addr) (H H' : Hp) : Prop := ∀ b o, b ≠ B → H b = some o → H' b = some o
theorem Keep.of {B : Addr} {H H' : Hp} (s : Same H H') : Keep B H H' := fun b o _ e => s b o e
theorem Keep.trans {B : Addr} {H H1 H2 : Hp} (a : Keep B H H1) (b : Keep B H1 H2) : Keep B H H2 := fun c o h e => b c o h (a c o h e)
theorem Keep.put {B : Addr} {H H' : Hp} {o : HO} (s : Keep B H H') : Keep B H (upd H' B o) := fun b x h e => by
  rw [upd_ne h]
  exact s b x h e
theorem Same.keep {B : Addr} {H H1 H2 : Hp} (a : Same H H1) (hB : H B = none) (b : Keep B H1 H2) : Same H H2 := fun c o e => b c o (ne_of_none e hB) (a c o e)

/-! ### list + list, wherever both are to be read -/
def rCatS (K : PySem.W.Frag) : R2 := fun x y H Q => ∃ l b xs zs, x = .ref l ∧ y = .ref b ∧ SqL K H l xs ∧ SqL K H b zs ∧ xs.length + zs.length ≤ sizeLine ∧ ∀ p, H p = none → Q (.ref p) (upd H p (.lst (xs ++ zs)))
theorem op_catS {X : Cx} : OpR X (binaryOp .Add) (rCatS X.K) := by
  intro pn st sl Hp1 x y v u Qv Inv1 rx ry hyp
  obtain ⟨p1, p2, ls1, ls2, rfl, rfl, in1, in2, room, goes⟩ := hyp
  cases rx
  cases ry
  obtain ⟨vs1, val1, ⟨⟨cls, dd, data, slots1⟩, n1, get1, hc, hd, hs⟩, _⟩ := Inv1.list in1
  obtain ⟨vs2, val2, ⟨⟨cls2, dd2, data2, slots2⟩, n2, get2, hc2, hd2, hs2⟩, _⟩ := Inv1.list in2
  simp only at hc hd hs hc2 hd2 hs2
  subst hc hd hs hc2 hd2 hs2
  have len1 := val1.length
  have len2 := val2.length
  refine concat_meets ⟨_, get1, rfl⟩ ⟨_, get2, rfl⟩ noFill_list_add seq_list_add PySem.F.slot_list_add PySem.F.entry_list_add (PySem.F.args_list_add_2 _ _)
    (list_addW p1 p2 vs1.toArray vs2.toArray n1 n2 none none slots1 slots2 (by rw [List.size_toArray, List.size_toArray]; omega)) ⟨get1, get2, ?_⟩
  have glued : vs1.toArray ++ vs2.toArray = (vs1 ++ vs2).toArray := by simp
  rw [glued]
  refine ⟨.ref _, _, Inv1.lnew (t' := st.toks) (val1.append val2) ?_, rfl, goes _ Inv1.fresh⟩
  rw [List.length_append]
  omega

/-! ### range(0, c n, c) -/
theorem rgN (c n : Nat) (hc : 0 < c) (hc2 : c ≤ 64) (h : n ≤ 1000) : RgC 0 ((c * n : Nat) : Int) (c : Int) n := by
  have hb : c * n ≤ 64 * 1000 := Nat.mul_le_mul hc2 h
  have e : Builtin.Range.rangeSize 0 ((c * n : Nat) : Int) (c : Int) = n := by
    unfold Builtin.Range.rangeSize
    rw [if_pos (by omega)]
    cases n with
    | zero =>
      rw [Nat.mul_zero, if_neg (by omega)]
      rfl
    | succ m =>
      rw [Nat.mul_succ, if_pos (by omega), show (((c * m + c : Nat) : Int) - 0 - 1) = ((c * m + (c - 1) : Nat) : Int) by omega, ← Int.natCast_ediv, Nat.mul_add_div hc, Nat.div_eq_of_lt (by omega)]
      omega
  refine ⟨by omega, by omega, ?_, e⟩
  unfold Builtin.Range.small
  rw [e]
  generalize c * n = z at *
  have fit : ∀ i : Int, 0 ≤ i → i < 100000 → Builtin.Range.rangeFitsLong i = true := fun i h0 h1 => by
    have p : (100000 : Int) ≤ 2 ^ 63 := by decide
    have p0 : (0 : Int) ≤ 2 ^ 63 := by decide
    unfold Builtin.Range.rangeFitsLong
    generalize (2 : Int) ^ 63 = z at *
    rw [decide_eq_true (show -z ≤ i by omega), decide_eq_true (show i < z by omega)]
    rfl
  rw [fit 0 (by omega) (by omega), fit _ (show 0 ≤ (z : Int) by omega) (by omega), fit c (by omega) (by omega), fit n (by omega) (by omega), if_pos (by omega), fit _ (show 0 ≤ (z : Int) + ((c : Int) - 1) by omega) (by omega), Bool.or_true]
  rfl
theorem and_nat (a b : Nat) : Builtin.bitAnd (a : Int) (b : Int) = ((a &&& b : Nat) : Int) := by
  have ha := Int.natCast_nonneg a
  rw [bitAnd_pp ha (Int.natCast_nonneg b), Int.toNat_natCast, Int.toNat_natCast]
theorem xor_nat (a b : Nat) : Builtin.bitXor (a : Int) (b : Int) = ((a ^^^ b : Nat) : Int) := by
  rw [Bits.bitXor_pp (Int.natCast_nonneg a) (Int.natCast_nonneg b), Int.toNat_natCast, Int.toNat_natCast]
/-- number & number - 1 -/
theorem clear_int (m : Nat) (h : 0 < m) : Builtin.bitAnd (m : Int) ((m : Int) - 1) = ((m &&& (m - 1) : Nat) : Int) := by
  rw [show ((m : Int) - 1) = ((m - 1 : Nat) : Int) by omega, and_nat]
/-- an item of a mapped list -/
theorem map_at {α β : Type} {f : α → β} {l : List α} {i : Nat} {y : β} (h : (l.map f)[i]? = some y) : ∃ x, l[i]? = some x ∧ y = f x := by
  rw [List.getElem?_map] at h
  cases e : l[i]? with
  | none =>
    rw [e] at h
    cases h
  | some x =>
    rw [e] at h
    exact ⟨x, rfl, (Option.some.inj h).symm⟩
theorem take_snoc {α : Type} {l : List α} {i : Nat} {x : α} (h : l[i]? = some x) : l.take (i + 1) = l.take i ++ [x] := by
  rw [List.take_add_one, h]
  rfl
theorem range_take {n i : Nat} (h : i ≤ n) : (List.range n).take i = List.range i := by
  rw [List.take_range, Nat.min_eq_left h]
/-- a comprehension without a test: its item is made -/
theorem yes {σ : L2.St} {H : Hp} {A B : Bool → Hp → Prop} (h : A true H) : tYes σ H fun b H3 => if b = true then A b H3 else B b H3 := by
  show if true = true then A true H else B true H
  rw [if_pos rfl]
  exact h
theorem smallL {n : Nat} (h : n ≤ 70000) : n < sizeLine := Nat.lt_of_le_of_lt h (by decide)
theorem smallE {n : Nat} (h : n ≤ 70000) : n ≤ sizeLine := Nat.le_of_lt (smallL h)

/-! ### bits -/
abbrev bV (b : Bool) : V := .int (b.toNat : Int)
theorem or_word (bs : List Bool) (i : Nat) (b : Bool) (h : bs[i]? = some b) : Builtin.bitOr ((word (bs.take i) : Nat) : Int) ((b.toNat : Int) * 2 ^ ((i : Nat) : Int).toNat) = ((word (bs.take (i + 1)) : Nat) : Int) := by
  have hl : (bs.take i).length = i := by
    rw [List.length_take]
    have := (List.getElem?_eq_some_iff.mp h).1
    omega
  have w := word_lt (bs.take i)
  rw [hl] at w
  rw [Int.toNat_natCast, Bits.bitOr_join (Int.natCast_nonneg _) (by
    rw [show ((2 : Int) ^ i) = ((2 ^ i : Nat) : Int) by rw [Int.natCast_pow]; rfl]
    exact Int.ofNat_lt.mpr w) (Int.natCast_nonneg _), take_snoc h, word_snoc, hl, Int.natCast_add, Int.natCast_mul, Int.natCast_pow]
  rfl
/-- n & ~(n << 1) -/
theorem less_int (n : Nat) : Builtin.bitAnd (n : Int) (Builtin.bitNot ((n : Int) * 2 ^ (1 : Int).toNat)) = ((n - (n &&& (2 * n)) : Nat) : Int) := by
  have e : (n : Int) * 2 ^ (1 : Int).toNat = ((2 * n : Nat) : Int) := by
    show (n : Int) * 2 = _
    omega
  rw [e]
  have h1 : decide ((0 : Int) ≤ (n : Int)) = true := decide_eq_true (Int.natCast_nonneg n)
  have h2 : decide ((0 : Int) ≤ Builtin.bitNot ((2 * n : Nat) : Int)) = false := decide_eq_false (by
    unfold Builtin.bitNot
    omega)
  have h3 : Builtin.bitNot (Builtin.bitNot ((2 * n : Nat) : Int)) = ((2 * n : Nat) : Int) := by
    unfold Builtin.bitNot
    omega
  unfold Builtin.bitAnd
  rw [h1, h2]
  show (n : Int) - ((((n : Int)).toNat &&& (Builtin.bitNot (Builtin.bitNot ((2 * n : Nat) : Int))).toNat : Nat) : Int) = _
  rw [h3, Int.toNat_natCast, Int.toNat_natCast]
  have : n &&& (2 * n) ≤ n := Nat.and_le_left
  omega
theorem bit_int (r i : Nat) : Builtin.bitAnd ((r : Int) / 2 ^ i) 1 = ((r.testBit i).toNat : Int) := by
  rw [bitAnd_m1, Nat.toNat_testBit, Int.natCast_emod, Int.natCast_ediv, Int.natCast_pow]
  rfl
/-! ### a slice -/
theorem cut_nat {xs : List V} {a b : Nat} {x y : Int} (ex : x = a) (ey : y = b) (hab : a ≤ b) (hb : b ≤ xs.length) : cutV xs (some x) (some y) = (xs.drop a).take (b - a) := by
  subst ex ey
  unfold cutV
  rw [HT.sIx_nat, HT.sIx_nat, Nat.min_eq_left hb, Nat.min_eq_left (by omega)]
end Lt
namespace Lt
open Sh60 (least firstLeast bestScore voted nearestOnes squares num)

/-! ### the least, the first of the least -/
theorem foldl_min_le : ∀ (l : List Nat) (a : Nat), l.foldl min a ≤ a ∧ ∀ x ∈ l, l.foldl min a ≤ x
  | [], a => ⟨Nat.le_refl _, fun x h => by cases h⟩
  | b :: r, a => by
    obtain ⟨h1, h2⟩ := foldl_min_le r (min a b)
    rw [List.foldl_cons]
    refine ⟨Nat.le_trans h1 (Nat.min_le_left _ _), fun x hx => ?_⟩
    rcases List.mem_cons.mp hx with rfl | hx
    · exact Nat.le_trans h1 (Nat.min_le_right _ _)
    · exact h2 x hx
theorem foldl_min_mem : ∀ (l : List Nat) (a : Nat), l.foldl min a = a ∨ l.foldl min a ∈ l
  | [], a => .inl rfl
  | b :: r, a => by
    rw [List.foldl_cons]
    rcases foldl_min_mem r (min a b) with h | h
    · rw [h]
      rcases Nat.le_total a b with z | z
      · exact .inl (Nat.min_eq_left z)
      · rw [Nat.min_eq_right z]
        exact .inr List.mem_cons_self
    · exact .inr (List.mem_cons_of_mem _ h)
theorem least_mem {l : List Nat} (h : l ≠ []) : least l ∈ l := by
  cases l with
  | nil => exact absurd rfl h
  | cons a r =>
    unfold least
    rcases foldl_min_mem (a :: r) ((a :: r).headD 0) with z | z
    · rw [z]
      exact List.mem_cons_self
    · exact z
theorem least_le {l : List Nat} {x : Nat} (h : x ∈ l) : least l ≤ x := (foldl_min_le l (l.headD 0)).2 x h
/-- the least is told by: it is there, and none is less -/
theorem least_eq {l : List Nat} {v : Nat} (h : v ∈ l) (m : ∀ x ∈ l, v ≤ x) : least l = v :=
  Nat.le_antisymm (least_le h) (m _ (least_mem (List.ne_nil_of_mem h)))
/-- at place k stands v, none is less, ahead of k all are more -/
structure First (l : List Nat) (k v : Nat) : Prop where
  here : l[k]? = some v
  low : ∀ x ∈ l, v ≤ x
  ahead : ∀ j x, j < k → l[j]? = some x → v < x
theorem First.least {l : List Nat} {k v : Nat} (h : First l k v) : least l = v := least_eq (List.mem_of_getElem? h.here) h.low
theorem First.place {l : List Nat} {k v : Nat} (h : First l k v) : firstLeast l = k := by
  unfold firstLeast
  rw [h.least]
  have e : l.idxOf? v = some k := by
    unfold List.idxOf?
    rw [List.findIdx?_eq_some_iff_getElem]
    obtain ⟨hk, e⟩ := List.getElem?_eq_some_iff.mp h.here
    refine ⟨hk, by rw [e]; exact beq_self_eq_true v, fun j hj => ?_⟩
    have := h.ahead j l[j] hj (List.getElem?_eq_getElem _)
    simp
    omega
  rw [e]
  rfl
theorem First.single (v : Nat) : First [v] 0 v := ⟨rfl, fun x h => by rw [List.mem_singleton.mp h]; exact Nat.le_refl _, fun j x h _ => by omega⟩
/-- one more item: it is the least now, or not -/
theorem First.less {l : List Nat} {k v y : Nat} (h : First l k v) (hy : y < v) : First (l ++ [y]) l.length y := by
  refine ⟨by rw [List.getElem?_append_right (Nat.le_refl _), Nat.sub_self]; rfl, fun x hx => ?_, fun j x hj e => ?_⟩
  · rcases List.mem_append.mp hx with z | z
    · exact Nat.le_of_lt (Nat.lt_of_lt_of_le hy (h.low x z))
    · rw [List.mem_singleton.mp z]
      exact Nat.le_refl _
  · rw [List.getElem?_append_left hj] at e
    exact Nat.lt_of_lt_of_le hy (h.low x (List.mem_of_getElem? e))
theorem First.more {l : List Nat} {k v y : Nat} (h : First l k v) (hy : v ≤ y) : First (l ++ [y]) k v := by
  have hk := (List.getElem?_eq_some_iff.mp h.here).1
  refine ⟨by rw [List.getElem?_append_left hk]; exact h.here, fun x hx => ?_, fun j x hj e => ?_⟩
  · rcases List.mem_append.mp hx with z | z
    · exact h.low x z
    · rw [List.mem_singleton.mp z]
      exact hy
  · rw [List.getElem?_append_left (by omega)] at e
    exact h.ahead j x hj e
theorem first_of {l : List Nat} (h : l ≠ []) : First l (firstLeast l) (least l) := by
  have e : ∃ k, l.idxOf? (least l) = some k := by
    cases q : l.idxOf? (least l) with
    | some k => exact ⟨k, rfl⟩
    | none =>
      rw [List.idxOf?_eq_none_iff] at q
      exact absurd (least_mem h) q
  obtain ⟨k, e⟩ := e
  have e2 : firstLeast l = k := by
    unfold firstLeast
    rw [e]
    rfl
  rw [e2]
  unfold List.idxOf? at e
  rw [List.findIdx?_eq_some_iff_getElem] at e
  obtain ⟨hk, e3, e4⟩ := e
  refine ⟨?_, fun x hx => least_le hx, fun j x hj ex => ?_⟩
  · rw [List.getElem?_eq_getElem hk, eq_of_beq e3]
  · have q := e4 j hj
    obtain ⟨hj2, rfl⟩ := List.getElem?_eq_some_iff.mp ex
    have le := least_le (List.getElem_mem hj2)
    have ne : l[j] ≠ least l := fun z => by
      rw [z] at q
      simp at q
    omega

/-! ### the first of the greatest (of ints) -/
structure Top (l : List Int) (k : Nat) (v : Int) : Prop where
  here : l[k]? = some v
  high : ∀ x ∈ l, x ≤ v
  ahead : ∀ j x, j < k → l[j]? = some x → x < v
theorem Top.single (v : Int) : Top [v] 0 v := ⟨rfl, fun x h => by rw [List.mem_singleton.mp h]; exact Int.le_refl _, fun j x h _ => by omega⟩
theorem Top.great {l : List Int} {k : Nat} {v y : Int} (h : Top l k v) (hy : v < y) : Top (l ++ [y]) l.length y := by
  refine ⟨by rw [List.getElem?_append_right (Nat.le_refl _), Nat.sub_self]; rfl, fun x hx => ?_, fun j x hj e => ?_⟩
  · rcases List.mem_append.mp hx with z | z
    · have := h.high x z
      omega
    · rw [List.mem_singleton.mp z]
      exact Int.le_refl _
  · rw [List.getElem?_append_left hj] at e
    have := h.high x (List.mem_of_getElem? e)
    omega
theorem Top.keep {l : List Int} {k : Nat} {v y : Int} (h : Top l k v) (hy : y ≤ v) : Top (l ++ [y]) k v := by
  have hk := (List.getElem?_eq_some_iff.mp h.here).1
  refine ⟨by rw [List.getElem?_append_left hk]; exact h.here, fun x hx => ?_, fun j x hj e => ?_⟩
  · rcases List.mem_append.mp hx with z | z
    · exact h.high x z
    · rw [List.mem_singleton.mp z]
      exact hy
  · rw [List.getElem?_append_left (by omega)] at e
    exact h.ahead j x hj e
theorem Top.uniq {l : List Int} {k m : Nat} {v u : Int} (h : Top l k v) (g : Top l m u) : k = m := by
  have a := h.high u (List.mem_of_getElem? g.here)
  have b := g.high v (List.mem_of_getElem? h.here)
  rcases Nat.lt_trichotomy k m with z | z | z
  · have := g.ahead k v z h.here
    omega
  · exact z
  · have := h.ahead m u z g.here
    omega
theorem top_fold (f : Option (Int × Nat) → Int × Nat → Option (Int × Nat)) (hf : ∀ q p, f (some q) p = if q.1 < p.1 then some p else some q) : ∀ (r l : List Int) (k : Nat) (v : Int), Top l k v →
    ∃ k' v', (r.zipIdx l.length).foldl f (some (v, k)) = some (v', k') ∧ Top (l ++ r) k' v'
  | [], l, k, v, h => ⟨k, v, rfl, by rw [List.append_nil]; exact h⟩
  | y :: r, l, k, v, h => by
    have step : ((y :: r).zipIdx l.length) = (y, l.length) :: r.zipIdx (l.length + 1) := List.zipIdx_cons ..
    have el : (l ++ [y]).length = l.length + 1 := by rw [List.length_append]; rfl
    have ea : l ++ y :: r = (l ++ [y]) ++ r := by rw [List.append_assoc]; rfl
    rw [step, List.foldl_cons, ea, hf, ← el]
    by_cases c : v < y
    · rw [if_pos c]
      exact top_fold f hf r (l ++ [y]) l.length y (h.great c)
    · rw [if_neg c]
      exact top_fold f hf r (l ++ [y]) k v (h.keep (by omega))
theorem best_of {l : List Int} {k : Nat} {v : Int} (h : Top l k v) : bestScore l = k := by
  cases l with
  | nil =>
    have := h.here
    simp at this
  | cons a r =>
    unfold bestScore
    rw [List.zipIdx_cons, List.foldl_cons]
    have key : ∀ (f : Option (Int × Nat) → Int × Nat → Option (Int × Nat)), (∀ q p, f (some q) p = if q.1 < p.1 then some p else some q) → Option.elim (List.foldl f (some (a, 0)) (r.zipIdx (0 + 1))) 0 (fun b => b.2) = k := by
      intro f hf
      obtain ⟨k', v', e, t⟩ := top_fold f hf r [a] 0 a (Top.single a)
      have e2 : List.foldl f (some (a, 0)) (r.zipIdx (0 + 1)) = some (v', k') := e
      rw [e2]
      exact t.uniq h
    exact key _ (fun q p => rfl)
end Lt
namespace Lt
open Sh60 (insertAt union grown groups Glyph)

/-! ### ascending lists -/
abbrev Asc (l : List Nat) : Prop := l.Pairwise (· < ·)
theorem mem_insertAt {x a : Nat} : ∀ {s : List Nat}, x ∈ insertAt a s ↔ x = a ∨ x ∈ s
  | [] => by simp [insertAt]
  | b :: l => by
    unfold insertAt
    split
    · simp
    · split
      · rename_i h
        subst h
        simp
      · rw [List.mem_cons, mem_insertAt, List.mem_cons]
        constructor
        · rintro (h | h | h)
          · exact .inr (.inl h)
          · exact .inl h
          · exact .inr (.inr h)
        · rintro (h | h | h)
          · exact .inr (.inl h)
          · exact .inl h
          · exact .inr (.inr h)
theorem asc_insertAt {a : Nat} : ∀ {s : List Nat}, Asc s → Asc (insertAt a s)
  | [], _ => by simp [insertAt, Asc]
  | b :: l, h => by
    unfold insertAt
    have hb := List.pairwise_cons.mp h
    split
    · rename_i c
      refine List.pairwise_cons.mpr ⟨fun x hx => ?_, h⟩
      rcases List.mem_cons.mp hx with rfl | z
      · exact c
      · exact Nat.lt_trans c (hb.1 x z)
    · split
      · exact h
      · refine List.pairwise_cons.mpr ⟨fun x hx => ?_, asc_insertAt hb.2⟩
        rcases mem_insertAt.mp hx with rfl | z
        · omega
        · exact hb.1 x z
theorem insertAt_len (a : Nat) : ∀ s : List Nat, s.length ≤ (insertAt a s).length
  | [] => by simp [insertAt]
  | b :: l => by
    unfold insertAt
    have := insertAt_len a l
    split
    · simp
    · split
      · exact Nat.le_refl _
      · simp only [List.length_cons]
        omega
theorem insertAt_new {a : Nat} : ∀ {s : List Nat}, a ∉ s → (insertAt a s).length = s.length + 1
  | [], _ => rfl
  | b :: l, h => by
    unfold insertAt
    split
    · rfl
    · split
      · rename_i e
        subst e
        exact absurd List.mem_cons_self h
      · rw [List.length_cons, List.length_cons, insertAt_new fun z => h (List.mem_cons_of_mem _ z)]
theorem mem_union {x : Nat} : ∀ {b a : List Nat}, x ∈ union a b ↔ x ∈ a ∨ x ∈ b
  | [], a => by simp [union]
  | c :: r, a => by
    have h := mem_union (x := x) (b := r) (a := insertAt c a)
    show x ∈ union (insertAt c a) r ↔ _
    rw [h, mem_insertAt, List.mem_cons]
    constructor
    · rintro ((h | h) | h)
      · exact .inr (.inl h)
      · exact .inl h
      · exact .inr (.inr h)
    · rintro (h | h | h)
      · exact .inl (.inr h)
      · exact .inl (.inl h)
      · exact .inr h
theorem asc_union : ∀ {b a : List Nat}, Asc a → Asc (union a b)
  | [], _, h => h
  | c :: r, a, h => asc_union (b := r) (asc_insertAt (a := c) h)
theorem union_len : ∀ (b a : List Nat), a.length ≤ (union a b).length
  | [], _ => Nat.le_refl _
  | c :: r, a => Nat.le_trans (insertAt_len c a) (union_len r (insertAt c a))
theorem union_new {y : Nat} : ∀ {b a : List Nat}, y ∈ b → y ∉ a → a.length + 1 ≤ (union a b).length
  | [], _, h, _ => by cases h
  | c :: r, a, h, n => by
    show _ ≤ (union (insertAt c a) r).length
    by_cases e : y = c
    · subst e
      rw [← insertAt_new n]
      exact union_len r _
    · have h2 : y ∈ r := by
        rcases List.mem_cons.mp h with z | z
        · exact absurd z e
        · exact z
      have n2 : y ∉ insertAt c a := fun z => by
        rcases mem_insertAt.mp z with q | q
        · exact e q
        · exact n q
      exact Nat.le_trans (Nat.succ_le_succ (insertAt_len c a)) (union_new h2 n2)
theorem asc_len : ∀ {l : List Nat} {a n : Nat}, Asc l → (∀ x ∈ l, a ≤ x ∧ x < n) → l.length ≤ n - a
  | [], _, _, _, _ => Nat.zero_le _
  | b :: r, a, n, h, hb => by
    have p := List.pairwise_cons.mp h
    have q := hb b List.mem_cons_self
    have ih := asc_len (l := r) (a := b + 1) (n := n) p.2 fun x hx => ⟨p.1 x hx, (hb x (List.mem_cons_of_mem _ hx)).2⟩
    rw [List.length_cons]
    omega
theorem asc_ext : ∀ {l m : List Nat}, Asc l → Asc m → (∀ x, x ∈ l ↔ x ∈ m) → l = m
  | [], [], _, _, _ => rfl
  | [], b :: m, _, _, h => by
    have := (h b).mpr List.mem_cons_self
    cases this
  | a :: l, [], _, _, h => by
    have := (h a).mp List.mem_cons_self
    cases this
  | a :: l, b :: m, hl, hm, h => by
    have pl := List.pairwise_cons.mp hl
    have pm := List.pairwise_cons.mp hm
    have e : a = b := by
      rcases List.mem_cons.mp ((h a).mp List.mem_cons_self) with z | z
      · exact z
      · rcases List.mem_cons.mp ((h b).mpr List.mem_cons_self) with y | y
        · exact y.symm
        · have := pm.1 a z
          have := pl.1 b y
          omega
    subst e
    rw [asc_ext pl.2 pm.2 fun x => ⟨fun hx => ?_, fun hx => ?_⟩]
    · rcases List.mem_cons.mp ((h x).mp (List.mem_cons_of_mem _ hx)) with z | z
      · have := pl.1 x hx
        omega
      · exact z
    · rcases List.mem_cons.mp ((h x).mpr (List.mem_cons_of_mem _ hx)) with z | z
      · have := pm.1 x hx
        omega
      · exact z

/-! ### steps -/
inductive Reach (near : Nat → List Nat) (i : Nat) : Nat → Prop
  | refl : Reach near i i
  | step {j k : Nat} : Reach near i j → k ∈ near j → Reach near i k
section
variable {near : Nat → List Nat}
theorem Reach.trans {i j k : Nat} (h : Reach near i j) (g : Reach near j k) : Reach near i k := by
  induction g with
  | refl => exact h
  | step _ hk ih => exact ih.step hk
theorem Reach.symm (sy : ∀ i j, j ∈ near i → i ∈ near j) {i j : Nat} (h : Reach near i j) : Reach near j i := by
  induction h with
  | refl => exact .refl
  | step _ hk ih => exact (Reach.step .refl (sy _ _ hk)).trans ih
theorem Reach.lt {n : Nat} (hn : ∀ i j, j ∈ near i → j < n) {i j : Nat} (hi : i < n) (h : Reach near i j) : j < n := by
  cases h with
  | refl => exact hi
  | step _ hk => exact hn _ _ hk
theorem grown_is {n i : Nat} (hn : ∀ i j, j ∈ near i → j < n) : ∀ (f : Nat) (all edge : List Nat), Asc all → (∀ x ∈ all, Reach near i x ∧ x < n) → i ∈ all → (∀ x ∈ edge, x ∈ all) → (∀ x ∈ all, x ∉ edge → ∀ y ∈ near x, y ∈ all) → n + 1 ≤ all.length + f →
    ∀ y, y ∈ grown near f all edge ↔ Reach near i y
  | 0, all, edge, h1, h2, _, _, _, h6 => by
    have := asc_len (a := 0) (n := n) h1 fun x hx => ⟨Nat.zero_le _, (h2 x hx).2⟩
    omega
  | f + 1, all, edge, h1, h2, h3, h4, h5, h6 => by
    intro y
    show y ∈ (if (union [] ((edge.flatMap near).filter fun j => !all.contains j)).isEmpty = true then all else grown near f (union all (union [] ((edge.flatMap near).filter fun j => !all.contains j))) (union [] ((edge.flatMap near).filter fun j => !all.contains j))) ↔ _
    have hnew : ∀ x, x ∈ union [] ((edge.flatMap near).filter fun j => !all.contains j) ↔ (∃ e ∈ edge, x ∈ near e) ∧ x ∉ all := by
      intro x
      rw [mem_union, List.mem_filter, List.mem_flatMap]
      constructor
      · rintro (h | ⟨h, g⟩)
        · cases h
        · refine ⟨h, fun z => ?_⟩
          rw [List.contains_iff_mem.mpr z] at g
          cases g
      · rintro ⟨h, g⟩
        refine .inr ⟨h, ?_⟩
        cases q : all.contains x with
        | false => rfl
        | true => exact absurd (List.contains_iff_mem.mp q) g
    generalize union [] ((edge.flatMap near).filter fun j => !all.contains j) = new at *
    have cl : ∀ x ∈ all, ∀ y ∈ near x, y ∈ all ∨ y ∈ new := by
      intro x hx y hy
      by_cases e : x ∈ edge
      · by_cases z : y ∈ all
        · exact .inl z
        · exact .inr ((hnew y).mpr ⟨⟨x, e, hy⟩, z⟩)
      · exact .inl (h5 x hx e y hy)
    by_cases c : new.isEmpty = true
    · rw [if_pos c]
      have hE : new = [] := List.isEmpty_iff.mp c
      subst hE
      refine ⟨fun h => (h2 y h).1, fun h => ?_⟩
      induction h with
      | refl => exact h3
      | step _ hk ih =>
        rcases cl _ ih _ hk with z | z
        · exact z
        · cases z
    · rw [if_neg c]
      obtain ⟨z, hz⟩ : ∃ z, z ∈ new := by
        cases new with
        | nil => exact absurd rfl c
        | cons z r => exact ⟨z, List.mem_cons_self⟩
      refine grown_is hn f (union all new) new (asc_union h1) (fun x hx => ?_) (mem_union.mpr (.inl h3)) (fun x hx => mem_union.mpr (.inr hx)) (fun x hx nx y hy => ?_) ?_ y
      · rcases mem_union.mp hx with q | q
        · exact h2 x q
        · obtain ⟨⟨e, he, hxe⟩, _⟩ := (hnew x).mp q
          exact ⟨(h2 e (h4 e he)).1.step hxe, hn _ _ hxe⟩
      · rcases mem_union.mp hx with q | q
        · exact mem_union.mpr (cl x q y hy)
        · exact absurd q nx
      · have := union_new hz ((hnew z).mp hz).2
        omega
theorem grown_reach {n i : Nat} (hn : ∀ i j, j ∈ near i → j < n) (hi : i < n) (y : Nat) : y ∈ grown near n [i] [i] ↔ Reach near i y := by
  refine grown_is hn n [i] [i] (List.pairwise_singleton _ _) (fun x hx => ?_) List.mem_cons_self (fun x hx => hx) (fun x hx nx => absurd hx nx) (by show n + 1 ≤ 1 + n; omega) y
  rw [List.mem_singleton.mp hx]
  exact ⟨.refl, hi⟩

/-! ### the labels -/
/-- v is the least from which one comes to j -/
def Lab (near : Nat → List Nat) (j v : Nat) : Prop := Reach near v j ∧ ∀ m, m < v → ¬ Reach near m j
theorem Lab.uniq {j v u : Nat} (h : Lab near j v) (g : Lab near j u) : v = u := by
  rcases Nat.lt_trichotomy v u with z | z | z
  · exact absurd h.1 (g.2 v z)
  · exact z
  · exact absurd g.1 (h.2 u z)
theorem set_all (i : Nat) : ∀ (L : List Nat) (g : Array Nat) (j : Nat), j < g.size → (L.foldl (fun (g : Array Nat) (j : Nat) => g.setIfInBounds j i) g).size = g.size ∧
    (L.foldl (fun (g : Array Nat) (j : Nat) => g.setIfInBounds j i) g).getD j 0 = if j ∈ L then i else g.getD j 0
  | [], g, j, _ => by simp
  | a :: L, g, j, hj => by
    obtain ⟨h1, h2⟩ := set_all i L (g.setIfInBounds a i) j (by rw [Array.size_setIfInBounds]; exact hj)
    rw [List.foldl_cons]
    refine ⟨by rw [h1, Array.size_setIfInBounds], ?_⟩
    rw [h2]
    by_cases e : j ∈ L
    · rw [if_pos e, if_pos (List.mem_cons_of_mem _ e)]
    · rw [if_neg e]
      by_cases c : a = j
      · subst c
        rw [if_pos List.mem_cons_self, Array.getD_eq_getD_getElem?, Array.getElem?_setIfInBounds_self_of_lt hj]
        rfl
      · rw [if_neg (fun z => by
          rcases List.mem_cons.mp z with q | q
          · exact c q.symm
          · exact e q), Array.getD_eq_getD_getElem?, Array.getD_eq_getD_getElem?, Array.getElem?_setIfInBounds_ne c]
theorem set_size (i : Nat) : ∀ (L : List Nat) (g : Array Nat), (L.foldl (fun (g : Array Nat) (j : Nat) => g.setIfInBounds j i) g).size = g.size
  | [], _ => rfl
  | a :: L, g => by
    rw [List.foldl_cons, set_size i L, Array.size_setIfInBounds]
theorem labels {n : Nat} (hn : ∀ i j, j ∈ near i → j < n) (sy : ∀ i j, j ∈ near i → i ∈ near j) : ∀ t, t ≤ n →
    ((List.range t).foldl (fun (g : Array Nat) (i : Nat) => if g.getD i 0 < n then g else (grown near n [i] [i]).foldl (fun (g : Array Nat) (j : Nat) => g.setIfInBounds j i) g) (Array.replicate n n)).size = n ∧
    ∀ j, j < n → (fun v => (v < t ∧ Lab near j v) ∨ (v = n ∧ ∀ m, m < t → ¬ Reach near m j)) (((List.range t).foldl (fun (g : Array Nat) (i : Nat) => if g.getD i 0 < n then g else (grown near n [i] [i]).foldl (fun (g : Array Nat) (j : Nat) => g.setIfInBounds j i) g) (Array.replicate n n)).getD j 0)
  | 0, _ => by
    refine ⟨Array.size_replicate, fun j hj => .inr ⟨?_, fun m hm => by omega⟩⟩
    show (Array.replicate n n).getD j 0 = n
    rw [Array.getD_eq_getD_getElem?, Array.getElem?_replicate, if_pos hj]
    rfl
  | t + 1, ht => by
    obtain ⟨h1, h2⟩ := labels hn sy t (by omega)
    rw [List.range_succ, List.foldl_append, List.foldl_cons, List.foldl_nil]
    generalize (List.range t).foldl (fun (g : Array Nat) (i : Nat) => if g.getD i 0 < n then g else (grown near n [i] [i]).foldl (fun (g : Array Nat) (j : Nat) => g.setIfInBounds j i) g) (Array.replicate n n) = g at h1 h2 ⊢
    by_cases c : g.getD t 0 < n
    · rw [if_pos c]
      refine ⟨h1, fun j hj => ?_⟩
      rcases h2 t (by omega) with ⟨q1, q2⟩ | ⟨q1, _⟩
      · rcases h2 j hj with ⟨p1, p2⟩ | ⟨p1, p2⟩
        · exact .inl ⟨by omega, p2⟩
        · refine .inr ⟨p1, fun m hm r => ?_⟩
          by_cases e : m = t
          · subst e
            exact p2 _ q1 (q2.1.trans r)
          · exact p2 m (by omega) r
      · omega
    · rw [if_neg c]
      refine ⟨by rw [set_size, h1], fun j hj => ?_⟩
      have sa := (set_all t (grown near n [t] [t]) g j (by omega)).2
      show (_ < t + 1 ∧ Lab near j _) ∨ (_ = n ∧ _)
      rw [sa]
      have noT : ∀ m, m < t → ¬ Reach near m t := by
        rcases h2 t (by omega) with ⟨q1, _⟩ | ⟨_, q2⟩
        · omega
        · exact q2
      by_cases e : j ∈ grown near n [t] [t]
      · rw [if_pos e]
        have r := (grown_reach hn (by omega) j).mp e
        exact .inl ⟨by omega, r, fun m hm z => noT m hm (z.trans (r.symm sy))⟩
      · rw [if_neg e]
        have nr : ¬ Reach near t j := fun z => e ((grown_reach hn (by omega) j).mpr z)
        rcases h2 j hj with ⟨p1, p2⟩ | ⟨p1, p2⟩
        · exact .inl ⟨by omega, p2⟩
        · refine .inr ⟨p1, fun m hm r => ?_⟩
          by_cases e : m = t
          · subst e
            exact nr r
          · exact p2 m (by omega) r
end

/-! ### groups -/
/-- the letters no farther than d from the j-th -/
def nearOf (d : Nat) (l : List Glyph) (j : Nat) : List Nat := (l.map fun a => (l.zipIdx.filter fun p => decide (Sh60.apart a p.1 ≤ d)).map fun p => p.2).toArray.getD j []
theorem mem_near {d : Nat} {l : List Glyph} {i j : Nat} : j ∈ nearOf d l i ↔ ∃ a b, l[i]? = some a ∧ l[j]? = some b ∧ Sh60.apart a b ≤ d := by
  unfold nearOf
  rw [Array.getD_eq_getD_getElem?, List.getElem?_toArray, List.getElem?_map]
  cases e : l[i]? with
  | none => simp
  | some a =>
    show j ∈ (l.zipIdx.filter fun p => decide (Sh60.apart a p.1 ≤ d)).map (fun p => p.2) ↔ _
    rw [List.mem_map]
    constructor
    · rintro ⟨⟨b, k⟩, h, rfl⟩
      rw [List.mem_filter, List.mem_zipIdx_iff_getElem?] at h
      exact ⟨a, b, rfl, h.1, of_decide_eq_true h.2⟩
    · rintro ⟨a', b, ea, eb, h⟩
      cases ea
      refine ⟨(b, j), ?_, rfl⟩
      rw [List.mem_filter, List.mem_zipIdx_iff_getElem?]
      exact ⟨eb, decide_eq_true h⟩
theorem apart_comm (a b : Glyph) : Sh60.apart a b = Sh60.apart b a := by
  unfold Sh60.apart
  have : ∀ a b : List Bool, ((a.zip b).filter fun p => p.1 != p.2).length = ((b.zip a).filter fun p => p.1 != p.2).length := by
    intro a
    induction a with
    | nil => intro b; cases b <;> rfl
    | cons x r ih =>
      intro b
      cases b with
      | nil => rfl
      | cons y s =>
        rw [List.zip_cons_cons, List.zip_cons_cons, List.filter_cons, List.filter_cons]
        have e : (x != y) = (y != x) := by cases x <;> cases y <;> rfl
        show (if (x != y) = true then _ else _ : List _).length = (if (y != x) = true then _ else _ : List _).length
        rw [e]
        split
        · rw [List.length_cons, List.length_cons, ih s]
        · exact ih s
  exact this a b
theorem groups_are (d : Nat) (l : List Glyph) : (groups d l).length = l.length ∧ ∀ j v, (groups d l)[j]? = some v → Lab (nearOf d l) j v ∧ v < l.length := by
  have hn : ∀ i j, j ∈ nearOf d l i → j < l.length := fun i j h => by
    obtain ⟨a, b, _, e, _⟩ := mem_near.mp h
    exact (List.getElem?_eq_some_iff.mp e).1
  have sy : ∀ i j, j ∈ nearOf d l i → i ∈ nearOf d l j := fun i j h => by
    obtain ⟨a, b, e1, e2, z⟩ := mem_near.mp h
    exact mem_near.mpr ⟨b, a, e2, e1, by rw [apart_comm]; exact z⟩
  obtain ⟨h1, h2⟩ := labels (near := nearOf d l) hn sy l.length (Nat.le_refl _)
  have e : groups d l = ((List.range l.length).foldl (fun (g : Array Nat) (i : Nat) => if g.getD i 0 < l.length then g else (grown (nearOf d l) l.length [i] [i]).foldl (fun (g : Array Nat) (j : Nat) => g.setIfInBounds j i) g) (Array.replicate l.length l.length)).toList := rfl
  rw [e]
  generalize (List.range l.length).foldl _ _ = g at h1 h2 ⊢
  refine ⟨by rw [Array.length_toList, h1], fun j v hv => ?_⟩
  rw [Array.getElem?_toList] at hv
  have hj : j < l.length := by
    have := (Array.getElem?_eq_some_iff.mp hv).1
    omega
  have hq := h2 j hj
  rw [Array.getD_eq_getD_getElem?, hv] at hq
  rcases hq with ⟨q1, q2⟩ | ⟨_, q2⟩
  · exact ⟨q2, q1⟩
  · exact absurd .refl (q2 j hj)
/-- how many different labels: as many as bear their own number -/
theorem groups_count (d : Nat) (l : List Glyph) : (union [] (groups d l)).length = ((List.range l.length).filter fun j => (groups d l)[j]? == some j).length := by
  obtain ⟨h1, h2⟩ := groups_are d l
  refine congrArg List.length (asc_ext (asc_union List.Pairwise.nil) (List.Pairwise.filter _ List.pairwise_lt_range) fun x => ?_)
  rw [mem_union, List.mem_filter, List.mem_range]
  constructor
  · rintro (h | h)
    · cases h
    · obtain ⟨j, hj⟩ := List.mem_iff_getElem?.mp h
      obtain ⟨lab, hx⟩ := h2 j x hj
      refine ⟨hx, ?_⟩
      have e : (groups d l)[x]? = some (groups d l)[x] := List.getElem?_eq_getElem (by omega)
      have lx := (h2 x _ e).1
      have : (groups d l)[x] = x := lx.uniq ⟨.refl, fun m hm r => lab.2 m hm (r.trans lab.1)⟩
      rw [e, this]
      exact beq_self_eq_true _
  · rintro ⟨_, h⟩
    exact .inr (List.mem_of_getElem? (eq_of_beq h))
end Lt
set_option linter.unusedVariables false
namespace Lt
open Sh60 (num glyph glyphs SIDE Glyph many)

/-! ### lt_apart1 -/
theorem many_map (k : Nat) (p : Nat → Bool) : many ((List.range k).map p) = cnt k p := by
  unfold many
  rw [cnt_map]
theorem bits32_is {n : Nat} (h : n < 2 ^ 32) : Sh60.bits32 n = pop n := by
  unfold Sh60.bits32
  rw [many_map, pop_cnt 32 n h]
  exact cnt_congr fun i _ => bitOf n i
theorem due_apart1 (a b : Int) (h : PySh60.lt_apart1_asked a b = true) : ∃ m n : Nat, a = m ∧ b = n ∧ m < 2 ^ 32 ∧ n < 2 ^ 32 ∧ PySh60.lt_apart1 a b = [((pop (m ^^^ n) : Nat) : Int)] := by
  have h1 : Sh60Neutral.asked1 [[11, a, b]] = true := (Bool.and_eq_true _ _ ▸ (show (Sh60Neutral.asked1 [[11, a, b]] && _) = true from h)).1
  have h2 : (Sh60Neutral.natural a 32 && Sh60Neutral.natural b 32) = true := h1
  rw [Bool.and_eq_true] at h2
  obtain ⟨m, rfl, hm⟩ := natural_nat h2.1
  obtain ⟨n, rfl, hn⟩ := natural_nat h2.2
  refine ⟨m, n, rfl, rfl, hm, hn, ?_⟩
  have due : PySh60.lt_apart1 (m : Int) (n : Int) = [((Sh60.bits32 ((m % 4294967296) ^^^ (n % 4294967296)) : Nat) : Int)] := rfl
  rw [due, Nat.mod_eq_of_lt (show m < 4294967296 from hm), Nat.mod_eq_of_lt (show n < 4294967296 from hn), bits32_is (Nat.xor_lt_two_pow hm hn)]

/-! ### 256 places as 16 rows -/
theorem cnt_add (a b : Nat) (p : Nat → Bool) : cnt (a + b) p = cnt a p + cnt b fun i => p (a + i) := by
  unfold cnt
  rw [List.range_add, List.filter_append, List.length_append, List.filter_map, List.length_map]
  rfl
theorem cnt_rows (k : Nat) (p : Nat → Bool) : ∀ n, cnt (k * n) p = ((List.range n).map fun j => cnt k fun i => p (k * j + i)).sum
  | 0 => rfl
  | n + 1 => by
    rw [Nat.mul_succ, cnt_add, cnt_rows k p n, List.range_succ, List.map_append, List.sum_append]
    rfl

/-! ### lt_but: where c has no dot -/
def butRow (x y c : Nat) : Nat := pop ((x ^^^ y) - ((x ^^^ y) &&& c))
theorem but_is (c a b : List Nat) (ha : ∀ j, j < 16 → num a j < 65536) (hb : ∀ j, j < 16 → num b j < 65536) :
    Sh60.apartBut (glyph c) (glyph a) (glyph b) = ((List.range 16).map fun j => butRow (num a j) (num b j) (num c j)).sum := by
  unfold Sh60.apartBut
  show cnt (16 * 16) _ = _
  rw [cnt_rows]
  refine congrArg List.sum (List.map_congr_left fun j hj => ?_)
  have hj' : j < 16 := List.mem_range.mp hj
  unfold butRow
  rw [pop_cnt 16 _ (Nat.lt_of_le_of_lt (Nat.sub_le _ _) (Nat.xor_lt_two_pow (ha j hj') (hb j hj')))]
  refine cnt_congr fun i hi => ?_
  rw [glyph_at c hj' hi, glyph_at a hj' hi, glyph_at b hj' hi, testBit_less, Nat.testBit_xor]
  cases (num c j).testBit i <;> cases (num a j).testBit i <;> cases (num b j).testBit i <;> rfl
/-- a sum over the sixteen rows of three letters, however it is gone through -/
theorem rows3 (f : Nat → Nat → Nat → Nat) (a b c : List Nat) (ha : a.length = 16) (hb : b.length = 16) (hc : c.length = 16) :
    (List.range 16).map (fun j => f (num a j) (num b j) (num c j)) = (a.zip (b.zip c)).map fun p => f p.1 p.2.1 p.2.2 := by
  refine List.ext_getElem? fun j => ?_
  rw [List.getElem?_map, List.getElem?_map]
  by_cases hj : j < 16
  · have e : (a.zip (b.zip c))[j]? = some (a[j]'(by omega), b[j]'(by omega), c[j]'(by omega)) := List.getElem?_zip_eq_some.mpr ⟨List.getElem?_eq_getElem _, List.getElem?_zip_eq_some.mpr ⟨List.getElem?_eq_getElem _, List.getElem?_eq_getElem _⟩⟩
    rw [List.getElem?_range hj, e]
    show some (f (a.getD j 0) (b.getD j 0) (c.getD j 0)) = _
    rw [List.getD_eq_getElem?_getD, List.getD_eq_getElem?_getD, List.getD_eq_getElem?_getD, List.getElem?_eq_getElem (show j < a.length by omega), List.getElem?_eq_getElem (show j < b.length by omega), List.getElem?_eq_getElem (show j < c.length by omega)]
    rfl
  · rw [List.getElem?_eq_none (by rw [List.length_range]; omega), List.getElem?_eq_none (by rw [List.length_zip]; omega)]
    rfl

/-! ### lt_common -/
theorem rowsOf_at (g : Glyph) (f : Nat → Nat → Bool) (h : ∀ j i, j < 16 → i < 16 → g.getD (16 * j + i) false = f j i) : Sh60.rowsOf g = (List.range 16).map fun j => word ((List.range 16).map (f j)) := by
  unfold Sh60.rowsOf
  refine List.map_congr_left fun j hj => ?_
  have hj' : j < 16 := List.mem_range.mp hj
  rw [word_sum, List.length_map, List.length_range]
  refine congrArg List.sum (List.map_congr_left fun i hi => ?_)
  have hi' : i < 16 := List.mem_range.mp hi
  have e2 : ((List.range 16).map (f j)).getD i false = f j i := by
    rw [List.getD_eq_getElem?_getD, List.getElem?_map, List.getElem?_range hi']
    rfl
  show (if g.getD (16 * j + i) false = true then 2 ^ i else 0) = _
  rw [h j i hj' hi', e2]
/-- in how many of n letters there is a dot -/
def dotsAt (xs : List Nat) (n j i : Nat) : Nat := cnt n fun k => (num (letter xs k) j).testBit i
theorem common_is (xs : List Nat) : Sh60.rowsOf (Sh60.common (glyphs xs)) = (List.range 16).map fun j => word ((List.range 16).map fun i => decide (xs.length / 16 ≤ 2 * dotsAt xs (xs.length / 16) j i)) := by
  refine rowsOf_at _ (fun j i => decide (xs.length / 16 ≤ 2 * dotsAt xs (xs.length / 16) j i)) fun j i hj hi => ?_
  unfold Sh60.common
  have hk : 16 * j + i < 256 := by omega
  rw [List.getD_eq_getElem?_getD, List.getElem?_map]
  show Option.getD (Option.map _ (List.range 256)[16 * j + i]?) false = _
  rw [List.getElem?_range hk]
  show decide ((glyphs xs).length ≤ 2 * many ((glyphs xs).map fun g => g.getD (16 * j + i) false)) = _
  unfold Sh60.glyphs
  rw [List.length_map, List.length_range, List.map_map]
  show decide (xs.length / 16 ≤ 2 * many ((List.range (xs.length / 16)).map fun k => (glyph (letter xs k)).getD (16 * j + i) false)) = _
  rw [many_map]
  unfold dotsAt
  rw [cnt_congr fun k _ => glyph_at (letter xs k) hj hi]

/-! ### what is due of the laws that get a font -/
theorem asked_font {font : List Int} (hq : (font.all (fun z => Sh60Neutral.natural z 16) && (if Sh60.some_ ((Sh60Neutral.nats font).length / 16) = true then font.length == (16 * ((Sh60Neutral.nats font).length / 16)) else (font.isEmpty) || (font.length == (16 * ((Sh60Neutral.nats font).length / 16))))) = true) :
    ∃ (xs : List Nat) (n : Nat), font = iL xs ∧ xs.length = 16 * n ∧ (∀ x ∈ xs, x < 65536) := by
  rw [Bool.and_eq_true] at hq
  obtain ⟨xs, rfl, hx⟩ := nats_of font hq.1
  have b3 := hq.2
  rw [nats_iL, iL_length] at b3
  refine ⟨xs, xs.length / 16, rfl, ?_, hx⟩
  split at b3
  · rw [beq_iff_eq] at b3
    exact b3
  · rw [Bool.or_eq_true, beq_iff_eq] at b3
    rcases b3 with z | z
    · have : xs = [] := by
        cases xs with
        | nil => rfl
        | cons c r => cases z
      subst this
      rfl
    · exact z
theorem due_common (font : List Int) (h : PySh60.lt_common_asked font = true) : ∃ (xs : List Nat) (n : Nat), font = iL xs ∧ xs.length = 16 * n ∧ (∀ x ∈ xs, x < 65536) ∧
    PySh60.lt_common font = if Sh60.some_ n = true then 0 :: iL ((List.range 16).map fun j => word ((List.range 16).map fun i => decide (n ≤ 2 * dotsAt xs n j i))) else [-2] := by
  have h1 : Sh60Neutral.asked1 [[6], font] = true := (Bool.and_eq_true _ _ ▸ (show (Sh60Neutral.asked1 [[6], font] && _) = true from h)).1
  obtain ⟨xs, n, rfl, hl, hx⟩ := asked_font h1
  have hn : xs.length / 16 = n := by omega
  refine ⟨xs, n, rfl, hl, hx, ?_⟩
  have due : PySh60.lt_common (iL xs) = Sh60Neutral.told (Sh60.answer (if Sh60.some_ ((Sh60Neutral.nats (iL xs)).length / 16) = true then .common (Sh60Neutral.nats (iL xs)) else .bad)) := rfl
  rw [nats_iL, hn] at due
  rw [due]
  by_cases c : Sh60.some_ n = true
  · rw [if_pos c, if_pos c]
    show (0 : Int) :: iL (Sh60.rowsOf (Sh60.common (glyphs xs))) = _
    rw [common_is, hn]
  · rw [if_neg c, if_neg c]
    rfl

/-! ### lt_middle -/
/-- how far the k-th is from all, together -/
def totalOf (xs : List Nat) (n k : Nat) : Nat := ((List.range n).map fun m => far (letter xs m) (letter xs k)).sum
theorem far_comm (a b : List Nat) : far a b = far b a := by
  unfold far
  refine congrArg List.sum (List.ext_getElem? fun j => ?_)
  rw [List.getElem?_map, List.getElem?_map]
  cases e : (a.zip b)[j]? with
  | some p =>
    obtain ⟨e1, e2⟩ := List.getElem?_zip_eq_some.mp e
    have : (b.zip a)[j]? = some (p.2, p.1) := List.getElem?_zip_eq_some.mpr ⟨e2, e1⟩
    rw [this]
    show some (pop (p.1 ^^^ p.2)) = some (pop (p.2 ^^^ p.1))
    rw [Nat.xor_comm]
  | none =>
    have l1 := List.getElem?_eq_none_iff.mp e
    rw [List.length_zip] at l1
    rw [List.getElem?_eq_none (by rw [List.length_zip]; omega)]
theorem total_is {xs : List Nat} {n : Nat} (hl : xs.length = 16 * n) (hx : ∀ x ∈ xs, x < 65536) {k : Nat} (hk : k < n) : Sh60.total (glyphs xs) (glyph (letter xs k)) = totalOf xs n k := by
  unfold Sh60.total Sh60.glyphs totalOf
  have hn : xs.length / SIDE = n := by
    show xs.length / 16 = n
    omega
  rw [List.map_map, hn]
  refine congrArg List.sum (List.map_congr_left fun m hm => ?_)
  have hm' : m < n := List.mem_range.mp hm
  show Sh60.apart (glyph (letter xs k)) (glyph (letter xs m)) = _
  exact apart_far (letter xs m) (letter xs k) (letter_len hl hm') (letter_len hl hk) (fun x h => hx x (letter_mem h)) (fun x h => hx x (letter_mem h))
theorem totals_are {xs : List Nat} {n : Nat} (hl : xs.length = 16 * n) (hx : ∀ x ∈ xs, x < 65536) : (glyphs xs).map (Sh60.total (glyphs xs)) = (List.range n).map (totalOf xs n) := by
  have hn : xs.length / SIDE = n := by
    show xs.length / 16 = n
    omega
  have e : glyphs xs = (List.range n).map fun k => glyph (letter xs k) := by
    unfold Sh60.glyphs
    rw [hn]
    rfl
  refine Eq.trans (congrArg (List.map (Sh60.total (glyphs xs))) e) ?_
  rw [List.map_map]
  exact List.map_congr_left fun k hk => total_is hl hx (List.mem_range.mp hk)
theorem due_middle (font : List Int) (h : PySh60.lt_middle_asked font = true) : ∃ (xs : List Nat) (n : Nat), font = iL xs ∧ xs.length = 16 * n ∧ (∀ x ∈ xs, x < 65536) ∧
    (Sh60.some_ n = true → ∀ k v, First ((List.range n).map (totalOf xs n)) k v → PySh60.lt_middle font = iL [0, k, v]) ∧ (Sh60.some_ n = false → PySh60.lt_middle font = [-2]) := by
  have h1 : Sh60Neutral.asked1 [[7], font] = true := (Bool.and_eq_true _ _ ▸ (show (Sh60Neutral.asked1 [[7], font] && _) = true from h)).1
  obtain ⟨xs, n, rfl, hl, hx⟩ := asked_font h1
  have hn : xs.length / 16 = n := by omega
  have due : PySh60.lt_middle (iL xs) = Sh60Neutral.told (Sh60.answer (if Sh60.some_ ((Sh60Neutral.nats (iL xs)).length / 16) = true then .middle (Sh60Neutral.nats (iL xs)) else .bad)) := rfl
  rw [nats_iL, hn] at due
  refine ⟨xs, n, rfl, hl, hx, fun c k v F => ?_, fun c => ?_⟩
  · rw [due, if_pos c]
    have hk : k < n := by
      have := (List.getElem?_eq_some_iff.mp F.here).1
      rw [List.length_map, List.length_range] at this
      exact this
    have em : Sh60.middle (glyphs xs) = k := by
      unfold Sh60.middle
      rw [totals_are hl hx]
      exact F.place
    have ev : totalOf xs n k = v := by
      have := F.here
      rw [List.getElem?_map, List.getElem?_range hk] at this
      exact Option.some.inj this
    show (0 : Int) :: iL [Sh60.middle (glyphs xs), Sh60.total (glyphs xs) ((glyphs xs).getD (Sh60.middle (glyphs xs)) [])] = _
    have eg : (glyphs xs).getD k [] = glyph (letter xs k) := by
      rw [List.getD_eq_getElem?_getD]
      unfold Sh60.glyphs
      rw [List.getElem?_map, List.getElem?_range (show k < xs.length / SIDE by show k < xs.length / 16; omega)]
      rfl
    rw [em, eg, total_is hl hx hk, ev]
    rfl
  · rw [due, if_neg (by rw [c]; exact Bool.false_ne_true)]
    rfl

/-! ### lt_nearest -/
/-- row j of a letter moved by dx, dy -/
def shiftBy (dx : Int) (w : Nat) : Nat := if 0 ≤ dx then w * 2 ^ dx.toNat % 65536 else w / 2 ^ (-dx).toNat
def movedRow (dx dy : Int) (a : List Nat) (j : Nat) : Nat := if 0 ≤ (j : Int) - dy ∧ (j : Int) - dy < 16 then shiftBy dx (num a ((j : Int) - dy).toNat) else 0
def movedRows (dx dy : Int) (a : List Nat) : List Nat := (List.range 16).map (movedRow dx dy a)
theorem shift_bit (dx : Int) {w : Nat} (hw : w < 65536) {i : Nat} (hi : i < 16) : (shiftBy dx w).testBit i = (decide (0 ≤ (i : Int) - dx ∧ (i : Int) - dx < 16) && w.testBit ((i : Int) - dx).toNat) := by
  unfold shiftBy
  by_cases h : 0 ≤ dx
  · rw [if_pos h, show (65536 : Nat) = 2 ^ 16 from rfl, Nat.testBit_mod_two_pow, decide_eq_true hi, Bool.true_and, Nat.testBit_mul_two_pow]
    by_cases c : dx.toNat ≤ i
    · have e : ((i : Int) - dx).toNat = i - dx.toNat := by omega
      rw [decide_eq_true c, decide_eq_true (show 0 ≤ (i : Int) - dx ∧ (i : Int) - dx < 16 by omega), e]
    · rw [decide_eq_false c, decide_eq_false (show ¬ (0 ≤ (i : Int) - dx ∧ (i : Int) - dx < 16) by omega), Bool.false_and, Bool.false_and]
  · rw [if_neg h, Nat.testBit_div_two_pow]
    have e : ((i : Int) - dx).toNat = i + (-dx).toNat := by omega
    rw [e]
    by_cases c : i + (-dx).toNat < 16
    · rw [decide_eq_true (show 0 ≤ (i : Int) - dx ∧ (i : Int) - dx < 16 by omega), Bool.true_and]
    · rw [decide_eq_false (show ¬ (0 ≤ (i : Int) - dx ∧ (i : Int) - dx < 16) by omega), Bool.false_and]
      exact Nat.testBit_lt_two_pow (Nat.lt_of_lt_of_le hw (Nat.pow_le_pow_right (n := 2) (by omega) (show 16 ≤ i + (-dx).toNat by omega)))
theorem num_map {f : Nat → Nat} {j n : Nat} (hj : j < n) : num ((List.range n).map f) j = f j := by
  unfold num
  rw [List.getD_eq_getElem?_getD, List.getElem?_map, List.getElem?_range hj]
  rfl
theorem flatMap_congr {α : Type} (l : List Nat) (F G : Nat → List α) (h : ∀ j ∈ l, F j = G j) : l.flatMap F = l.flatMap G := by
  induction l with
  | nil => rfl
  | cons a r ih => rw [List.flatMap_cons, List.flatMap_cons, h a List.mem_cons_self, ih fun j hj => h j (List.mem_cons_of_mem _ hj)]
theorem moved_is (dx dy : Int) (a : List Nat) (ha : ∀ j, j < 16 → num a j < 65536) : Sh60.moved dx dy (glyph a) = glyph (movedRows dx dy a) := by
  have e : glyph (movedRows dx dy a) = (List.range 16).flatMap fun j => (List.range 16).map fun i => num (movedRows dx dy a) j / 2 ^ i % 2 == 1 := rfl
  rw [e]
  show (List.range 16).flatMap (fun (j : Nat) => (List.range 16).map fun (i : Nat) => Sh60.at_ (glyph a) ((i : Int) - dx) ((j : Int) - dy)) = _
  refine flatMap_congr _ _ _ fun j hj => List.map_congr_left fun i hi => ?_
  have hj' : j < 16 := List.mem_range.mp hj
  have hi' : i < 16 := List.mem_range.mp hi
  rw [bitOf]
  unfold movedRows
  rw [num_map hj']
  unfold movedRow Sh60.at_
  by_cases c : 0 ≤ (j : Int) - dy ∧ (j : Int) - dy < 16
  · rw [if_pos c, shift_bit dx (ha _ (by omega)) hi']
    by_cases b : 0 ≤ (i : Int) - dx ∧ (i : Int) - dx < 16
    · rw [decide_eq_true b, decide_eq_true (show 0 ≤ (i : Int) - dx ∧ (i : Int) - dx < 16 ∧ 0 ≤ (j : Int) - dy ∧ (j : Int) - dy < 16 by omega), Bool.true_and, Bool.true_and]
      exact glyph_at a (by omega) (by omega)
    · rw [decide_eq_false b, decide_eq_false (show ¬ (0 ≤ (i : Int) - dx ∧ (i : Int) - dx < 16 ∧ 0 ≤ (j : Int) - dy ∧ (j : Int) - dy < 16) by omega), Bool.false_and, Bool.false_and]
  · rw [if_neg c, decide_eq_false (show ¬ (0 ≤ (i : Int) - dx ∧ (i : Int) - dx < 16 ∧ 0 ≤ (j : Int) - dy ∧ (j : Int) - dy < 16) by omega), Bool.false_and, Nat.zero_testBit]
theorem movedRows_len (dx dy : Int) (a : List Nat) : (movedRows dx dy a).length = 16 := by
  unfold movedRows
  rw [List.length_map, List.length_range]
theorem shift_lt (dx : Int) {w : Nat} (hw : w < 65536) : shiftBy dx w < 65536 := by
  unfold shiftBy
  split
  · exact Nat.mod_lt _ (by decide)
  · exact Nat.lt_of_le_of_lt (Nat.div_le_self _ _) hw
theorem movedRows_lt (dx dy : Int) (a : List Nat) (ha : ∀ j, j < 16 → num a j < 65536) : ∀ x ∈ movedRows dx dy a, x < 65536 := by
  intro x hx
  obtain ⟨j, hj, rfl⟩ := List.mem_map.mp hx
  unfold movedRow
  split
  · exact shift_lt dx (ha _ (by omega))
  · decide
theorem mem_moves {s : Nat} {m : Int × Int} : m ∈ Sh60.moves s ↔ -(s : Int) ≤ m.1 ∧ m.1 ≤ s ∧ -(s : Int) ≤ m.2 ∧ m.2 ≤ s := by
  unfold Sh60.moves
  rw [List.mem_flatMap]
  constructor
  · rintro ⟨j, hj, h⟩
    rw [List.mem_range] at hj
    obtain ⟨i, hi, rfl⟩ := List.mem_map.mp h
    rw [List.mem_range] at hi
    show -(s : Int) ≤ (i : Int) - s ∧ (i : Int) - s ≤ s ∧ -(s : Int) ≤ (j : Int) - s ∧ (j : Int) - s ≤ s
    omega
  · rintro ⟨h1, h2, h3, h4⟩
    refine ⟨(m.2 + s).toNat, List.mem_range.mpr (by omega), List.mem_map.mpr ⟨(m.1 + s).toNat, List.mem_range.mpr (by omega), ?_⟩⟩
    refine Prod.ext ?_ ?_
    · show (((m.1 + s).toNat : Nat) : Int) - s = m.1
      omega
    · show (((m.2 + s).toNat : Nat) : Int) - s = m.2
      omega
/-- the least of all moves up to s -/
def nearBy (s : Nat) (a L : List Nat) : Nat := Sh60.least ((Sh60.moves s).map fun m => far (movedRows m.1 m.2 a) L)
/-- told by: some move has it, none has less -/
theorem nearBy_eq {s : Nat} {a L : List Nat} {v : Nat} (h : ∃ dx dy : Int, -(s : Int) ≤ dx ∧ dx ≤ s ∧ -(s : Int) ≤ dy ∧ dy ≤ s ∧ far (movedRows dx dy a) L = v) (m : ∀ dx dy : Int, -(s : Int) ≤ dx → dx ≤ s → -(s : Int) ≤ dy → dy ≤ s → v ≤ far (movedRows dx dy a) L) : nearBy s a L = v := by
  obtain ⟨dx, dy, h1, h2, h3, h4, rfl⟩ := h
  refine least_eq (List.mem_map.mpr ⟨(dx, dy), mem_moves.mpr ⟨h1, h2, h3, h4⟩, rfl⟩) fun x hx => ?_
  obtain ⟨p, hp, rfl⟩ := List.mem_map.mp hx
  obtain ⟨q1, q2, q3, q4⟩ := mem_moves.mp hp
  exact m _ _ q1 q2 q3 q4
theorem nearest_is {s n : Nat} {names xs a : List Nat} (hl : xs.length = 16 * n) (hx : ∀ x ∈ xs, x < 65536) (ha : a.length = 16) (hb : ∀ x ∈ a, x < 65536) {k v : Nat} (F : First ((List.range n).map fun k => nearBy s a (letter xs k)) k v) :
    Sh60.nearest s names (glyphs xs) (glyph a) = (k, v, Sh60.least (257 :: ((((List.range n).map fun k => nearBy s a (letter xs k)).zip names).filter fun p => p.2 != num names k).map fun p => p.1)) := by
  have hn : xs.length / SIDE = n := by
    show xs.length / 16 = n
    omega
  have na : ∀ j, j < 16 → num a j < 65536 := fun j hj => num_lt hb (by omega)
  have e : (glyphs xs).map (fun b => Sh60.least (((Sh60.moves s).map fun m => Sh60.moved m.1 m.2 (glyph a)).map fun x => Sh60.apart x b)) = (List.range n).map fun k => nearBy s a (letter xs k) := by
    unfold Sh60.glyphs
    rw [List.map_map, hn]
    refine List.map_congr_left fun k hk => ?_
    have hk' : k < n := List.mem_range.mp hk
    show Sh60.least (((Sh60.moves s).map fun m => Sh60.moved m.1 m.2 (glyph a)).map fun x => Sh60.apart x (glyph (letter xs k))) = _
    unfold nearBy
    rw [List.map_map]
    refine congrArg Sh60.least (List.map_congr_left fun m _ => ?_)
    show Sh60.apart (Sh60.moved m.1 m.2 (glyph a)) (glyph (letter xs k)) = _
    rw [moved_is _ _ _ na, apart_far (letter xs k) _ (letter_len hl hk') (movedRows_len ..) (fun x h => hx x (letter_mem h)) (movedRows_lt _ _ _ na), far_comm]
  show (let d := (glyphs xs).map (fun b => Sh60.least (((Sh60.moves s).map fun m => Sh60.moved m.1 m.2 (glyph a)).map fun x => Sh60.apart x b)); let k := Sh60.firstLeast d; (k, Sh60.least d, Sh60.least (257 :: ((d.zip names).filter fun p => p.2 != num names k).map fun p => p.1))) = _
  rw [e]
  show (Sh60.firstLeast _, Sh60.least _, _) = _
  rw [F.place, F.least]
end Lt
namespace Lt
open Sh60 (num glyph glyphs SIDE Glyph union groups signed score squares nearestOnes voted int32 wordOf chunks)

/-! ### a letter that may be empty where the call is refused -/
theorem len16 {n : Nat} {xs ys : List Nat} (b3 : (if Sh60.some_ (xs.length / 16) = true then xs.length == 16 * (xs.length / 16) && ys.length == 16 else (((iL xs).isEmpty && (iL ys).isEmpty) || (xs.length == 16 * (xs.length / 16) && ys.length == 16))) = true) :
    xs.length = 16 * (xs.length / 16) ∧ ys.length ≤ 16 ∧ (Sh60.some_ (xs.length / 16) = true → ys.length = 16) := by
  split at b3
  · simp only [Bool.and_eq_true, beq_iff_eq] at b3
    exact ⟨b3.1, by omega, fun _ => b3.2⟩
  · rename_i c
    simp only [Bool.or_eq_true, Bool.and_eq_true, beq_iff_eq] at b3
    refine ⟨?_, ?_, fun h => absurd h c⟩
    · rcases b3 with ⟨z, _⟩ | ⟨z, _⟩
      · have : xs = [] := by
          cases xs with
          | nil => rfl
          | cons c r => cases z
        subst this
        rfl
      · exact z
    · rcases b3 with ⟨_, z⟩ | ⟨_, z⟩
      · have : ys = [] := by
          cases ys with
          | nil => rfl
          | cons c r => cases z
        subst this
        exact Nat.zero_le _
      · omega

/-! ### lt_but -/
def butFar (c a L : List Nat) : Nat := ((List.range 16).map fun j => butRow (num a j) (num L j) (num c j)).sum
theorem due_but (font c a : List Int) (h : PySh60.lt_but_asked font c a = true) : ∃ (xs cs ys : List Nat) (n : Nat), font = iL xs ∧ c = iL cs ∧ a = iL ys ∧ xs.length = 16 * n ∧ cs.length ≤ 16 ∧ ys.length ≤ 16 ∧ (∀ x ∈ xs, x < 65536) ∧ (∀ x ∈ cs, x < 65536) ∧ (∀ x ∈ ys, x < 65536) ∧ (Sh60.some_ n = true → cs.length = 16 ∧ ys.length = 16) ∧
    PySh60.lt_but font c a = if Sh60.some_ n = true then 0 :: iL ((List.range n).map fun k => butFar cs ys (letter xs k)) else [-2] := by
  have h1 : Sh60Neutral.asked1 [[4], font, c, a] = true := (Bool.and_eq_true _ _ ▸ (show (Sh60Neutral.asked1 [[4], font, c, a] && _) = true from h)).1
  have h2 : (font.all (fun z => Sh60Neutral.natural z 16) && (c.all (fun z => Sh60Neutral.natural z 16) && (a.all (fun z => Sh60Neutral.natural z 16) && (if Sh60.some_ ((Sh60Neutral.nats font).length / 16) = true then font.length == (16 * ((Sh60Neutral.nats font).length / 16)) && c.length == 16 && a.length == 16 else (font.isEmpty && c.isEmpty && a.isEmpty) || (font.length == (16 * ((Sh60Neutral.nats font).length / 16)) && c.length == 16 && a.length == 16))))) = true := h1
  rw [Bool.and_eq_true, Bool.and_eq_true, Bool.and_eq_true] at h2
  obtain ⟨b1, b2, b3, b4⟩ := h2
  obtain ⟨xs, rfl, hx⟩ := nats_of font b1
  obtain ⟨cs, rfl, hc⟩ := nats_of c b2
  obtain ⟨ys, rfl, hy⟩ := nats_of a b3
  rw [nats_iL, iL_length, iL_length, iL_length] at b4
  have due : PySh60.lt_but (iL xs) (iL cs) (iL ys) = Sh60Neutral.told (Sh60.answer (if Sh60.some_ ((Sh60Neutral.nats (iL xs)).length / 16) = true then .but (Sh60Neutral.nats (iL xs)) (Sh60Neutral.nats (iL cs)) (Sh60Neutral.nats (iL ys)) else .bad)) := rfl
  rw [nats_iL, nats_iL, nats_iL] at due
  have L : xs.length = 16 * (xs.length / 16) ∧ cs.length ≤ 16 ∧ ys.length ≤ 16 ∧ (Sh60.some_ (xs.length / 16) = true → cs.length = 16 ∧ ys.length = 16) := by
    split at b4
    · simp only [Bool.and_eq_true, beq_iff_eq] at b4
      exact ⟨b4.1.1, by omega, by omega, fun _ => ⟨b4.1.2, b4.2⟩⟩
    · rename_i nc
      simp only [Bool.or_eq_true, Bool.and_eq_true, beq_iff_eq] at b4
      rcases b4 with ⟨⟨z1, z2⟩, z3⟩ | ⟨⟨z1, z2⟩, z3⟩
      · have e1 : xs = [] := by
          cases xs with
          | nil => rfl
          | cons c r => cases z1
        have e2 : cs = [] := by
          cases cs with
          | nil => rfl
          | cons c r => cases z2
        have e3 : ys = [] := by
          cases ys with
          | nil => rfl
          | cons c r => cases z3
        subst e1 e2 e3
        exact ⟨rfl, Nat.zero_le _, Nat.zero_le _, fun h => absurd h nc⟩
      · exact ⟨z1, by omega, by omega, fun h => absurd h nc⟩
  refine ⟨xs, cs, ys, xs.length / 16, rfl, rfl, rfl, L.1, L.2.1, L.2.2.1, hx, hc, hy, L.2.2.2, ?_⟩
  rw [due]
  by_cases q : Sh60.some_ (xs.length / 16) = true
  · rw [if_pos q, if_pos q]
    show (0 : Int) :: iL ((glyphs xs).map (Sh60.apartBut (glyph cs) (glyph ys))) = _
    refine congrArg (fun l => (0 : Int) :: iL l) ?_
    unfold Sh60.glyphs
    rw [List.map_map]
    refine List.map_congr_left fun k hk => ?_
    have hk' : k < xs.length / 16 := List.mem_range.mp hk
    have l16 := letter_len L.1 hk'
    show Sh60.apartBut (glyph cs) (glyph ys) (glyph (letter xs k)) = _
    exact but_is cs ys (letter xs k) (fun j hj => num_lt hy (by rw [(L.2.2.2 q).2]; exact hj)) (fun j hj => num_lt (fun x h => hx x (letter_mem h)) (by rw [l16]; exact hj))
  · rw [if_neg q, if_neg q]
    rfl

/-! ### lt_nearest -/
theorem due_nearest (s : Int) (names font a : List Int) (h : PySh60.lt_nearest_asked s names font a = true) : ∃ (t : Nat) (ns xs ys : List Nat) (n : Nat), s = t ∧ names = iL ns ∧ font = iL xs ∧ a = iL ys ∧ t < 2 ^ 32 ∧ xs.length = 16 * n ∧ ys.length ≤ 16 ∧ ns.length = n ∧ (∀ x ∈ xs, x < 65536) ∧ (∀ x ∈ ys, x < 65536) ∧ (Sh60.some_ n = true → t ≤ 4 → ys.length = 16) ∧
    (Sh60.some_ n = true → t ≤ 4 → ∀ k v, First ((List.range n).map fun k => nearBy t ys (letter xs k)) k v →
      PySh60.lt_nearest s names font a = iL [0, k, v, Sh60.least (257 :: ((((List.range n).map fun k => nearBy t ys (letter xs k)).zip ns).filter fun p => p.2 != num ns k).map fun p => p.1)]) ∧
    (¬ (Sh60.some_ n = true ∧ t ≤ 4) → PySh60.lt_nearest s names font a = [-2]) := by
  have h1 : Sh60Neutral.asked1 [[5, s], names, font, a] = true := (Bool.and_eq_true _ _ ▸ (show (Sh60Neutral.asked1 [[5, s], names, font, a] && _) = true from h)).1
  have h2 : (Sh60Neutral.natural s 32 && (names.all (fun z => Sh60Neutral.natural z 32) && (font.all (fun z => Sh60Neutral.natural z 16) && (a.all (fun z => Sh60Neutral.natural z 16) && (if (Sh60.some_ ((Sh60Neutral.nats font).length / 16) && decide (s.toNat ≤ 4)) = true then names.length == ((Sh60Neutral.nats font).length / 16) && font.length == (16 * ((Sh60Neutral.nats font).length / 16)) && a.length == 16 else (names.isEmpty && font.isEmpty && a.isEmpty) || (names.length == ((Sh60Neutral.nats font).length / 16) && font.length == (16 * ((Sh60Neutral.nats font).length / 16)) && a.length == 16)))))) = true := h1
  rw [Bool.and_eq_true, Bool.and_eq_true, Bool.and_eq_true, Bool.and_eq_true] at h2
  obtain ⟨b0, b1, b2, b3, b4⟩ := h2
  obtain ⟨t, rfl, ht⟩ := natural_nat b0
  obtain ⟨ns, rfl, _⟩ := nats_of names b1
  obtain ⟨xs, rfl, hx⟩ := nats_of font b2
  obtain ⟨ys, rfl, hy⟩ := nats_of a b3
  rw [nats_iL, iL_length, iL_length, iL_length, Int.toNat_natCast] at b4
  have due : PySh60.lt_nearest (t : Int) (iL ns) (iL xs) (iL ys) = Sh60Neutral.told (Sh60.answer (if (Sh60.some_ ((Sh60Neutral.nats (iL xs)).length / 16) && decide (t ≤ 4)) = true then .nearest t (Sh60Neutral.nats (iL ns)) (Sh60Neutral.nats (iL xs)) (Sh60Neutral.nats (iL ys)) else .bad)) := rfl
  rw [nats_iL, nats_iL, nats_iL] at due
  have L : ns.length = xs.length / 16 ∧ xs.length = 16 * (xs.length / 16) ∧ ys.length ≤ 16 ∧ ((Sh60.some_ (xs.length / 16) && decide (t ≤ 4)) = true → ys.length = 16) := by
    split at b4
    · simp only [Bool.and_eq_true, beq_iff_eq] at b4
      exact ⟨b4.1.1, b4.1.2, by omega, fun _ => b4.2⟩
    · rename_i nc
      simp only [Bool.or_eq_true, Bool.and_eq_true, beq_iff_eq] at b4
      rcases b4 with ⟨⟨z1, z2⟩, z3⟩ | ⟨⟨z1, z2⟩, z3⟩
      · have e1 : ns = [] := by
          cases ns with
          | nil => rfl
          | cons c r => cases z1
        have e2 : xs = [] := by
          cases xs with
          | nil => rfl
          | cons c r => cases z2
        have e3 : ys = [] := by
          cases ys with
          | nil => rfl
          | cons c r => cases z3
        subst e1 e2 e3
        exact ⟨rfl, rfl, Nat.zero_le _, fun h => absurd h nc⟩
      · exact ⟨z1, z2, by omega, fun h => absurd h nc⟩
  refine ⟨t, ns, xs, ys, xs.length / 16, rfl, rfl, rfl, rfl, ht, L.2.1, L.2.2.1, L.1, hx, hy, fun q1 q2 => L.2.2.2 (by rw [q1, decide_eq_true q2]; rfl), fun q1 q2 k v F => ?_, fun q => ?_⟩
  · have q : (Sh60.some_ (xs.length / 16) && decide (t ≤ 4)) = true := by
      rw [q1, decide_eq_true q2]
      rfl
    rw [due, if_pos q]
    show (0 : Int) :: iL [(Sh60.nearest t ns (glyphs xs) (glyph ys)).1, (Sh60.nearest t ns (glyphs xs) (glyph ys)).2.1, (Sh60.nearest t ns (glyphs xs) (glyph ys)).2.2] = _
    rw [nearest_is L.2.1 hx (L.2.2.2 q) hy F]
    rfl
  · rw [due, if_neg (fun z => q (by
      rw [Bool.and_eq_true] at z
      exact ⟨z.1, of_decide_eq_true z.2⟩))]
    rfl

/-! ### lt_groups -/
/-- letters no farther than d, by their words -/
def nearN (d : Nat) (xs : List Nat) (n i : Nat) : List Nat := (List.range n).filter fun j => decide (i < n) && decide (far (letter xs i) (letter xs j) ≤ d)
theorem glyphs_at {xs : List Nat} {n : Nat} (hl : xs.length = 16 * n) (k : Nat) : (glyphs xs)[k]? = if k < n then some (glyph (letter xs k)) else none := by
  unfold Sh60.glyphs
  rw [List.getElem?_map]
  have hn : xs.length / SIDE = n := by
    show xs.length / 16 = n
    omega
  rw [hn]
  by_cases h : k < n
  · rw [List.getElem?_range h, if_pos h]
    rfl
  · rw [List.getElem?_eq_none (by rw [List.length_range]; omega), if_neg h]
    rfl
theorem nearN_is {d : Nat} {xs : List Nat} {n : Nat} (hl : xs.length = 16 * n) (hx : ∀ x ∈ xs, x < 65536) (i j : Nat) : j ∈ nearOf d (glyphs xs) i ↔ i < n ∧ j < n ∧ far (letter xs i) (letter xs j) ≤ d := by
  rw [mem_near, glyphs_at hl, glyphs_at hl]
  have ap : ∀ i j, i < n → j < n → Sh60.apart (glyph (letter xs i)) (glyph (letter xs j)) = far (letter xs i) (letter xs j) := fun i j hi hj => by
    rw [apart_far (letter xs j) (letter xs i) (letter_len hl hj) (letter_len hl hi) (fun x h => hx x (letter_mem h)) (fun x h => hx x (letter_mem h)), far_comm]
  constructor
  · rintro ⟨a, b, e1, e2, h⟩
    by_cases hi : i < n
    · by_cases hj : j < n
      · rw [if_pos hi] at e1
        rw [if_pos hj] at e2
        cases e1
        cases e2
        rw [ap i j hi hj] at h
        exact ⟨hi, hj, h⟩
      · rw [if_neg hj] at e2
        cases e2
    · rw [if_neg hi] at e1
      cases e1
  · rintro ⟨hi, hj, h⟩
    exact ⟨_, _, if_pos hi, if_pos hj, by rw [ap i j hi hj]; exact h⟩
/-- j's label: the least from which one comes to j by letters no farther than d each -/
inductive Way (d : Nat) (xs : List Nat) (n i : Nat) : Nat → Prop
  | refl : i < n → Way d xs n i i
  | step {j k : Nat} : Way d xs n i j → k < n → far (letter xs j) (letter xs k) ≤ d → Way d xs n i k
theorem Way.lt {d : Nat} {xs : List Nat} {n i j : Nat} (h : Way d xs n i j) : i < n ∧ j < n := by
  induction h with
  | refl h => exact ⟨h, h⟩
  | step _ hk _ ih => exact ⟨ih.1, hk⟩
theorem way_is {d : Nat} {xs : List Nat} {n : Nat} (hl : xs.length = 16 * n) (hx : ∀ x ∈ xs, x < 65536) {i j : Nat} (hj : j < n) : Reach (nearOf d (glyphs xs)) i j ↔ Way d xs n i j := by
  constructor
  · intro h
    have key : ∀ j, Reach (nearOf d (glyphs xs)) i j → j < n → Way d xs n i j := by
      intro j h
      induction h with
      | refl => exact fun h => .refl h
      | step _ hk ih =>
        intro hj
        obtain ⟨q1, q2, q3⟩ := (nearN_is hl hx _ _).mp hk
        exact (ih q1).step q2 q3
    exact key j h hj
  · intro h
    induction h with
    | refl _ => exact .refl
    | step w hk hf ih => exact (ih w.lt.2).step ((nearN_is hl hx _ _).mpr ⟨w.lt.2, hk, hf⟩)
theorem due_groups (d : Int) (font : List Int) (h : PySh60.lt_groups_asked d font = true) : ∃ (e : Nat) (xs : List Nat) (n : Nat), d = e ∧ font = iL xs ∧ e < 2 ^ 32 ∧ xs.length = 16 * n ∧ (∀ x ∈ xs, x < 65536) ∧
    (Sh60.some_ n = true → ∀ gs : List Nat, gs.length = n → (∀ j v, gs[j]? = some v → Way e xs n v j ∧ ∀ m, m < v → ¬ Way e xs n m j) →
      PySh60.lt_groups d font = iL (((List.range n).filter fun j => gs[j]? == some j).length :: gs)) ∧
    (Sh60.some_ n = false → PySh60.lt_groups d font = [-2]) := by
  have h1 : Sh60Neutral.asked1 [[8, d], font] = true := (Bool.and_eq_true _ _ ▸ (show (Sh60Neutral.asked1 [[8, d], font] && _) = true from h)).1
  have h2 := (Bool.and_eq_true _ _ ▸ (show (Sh60Neutral.natural d 32 && _) = true from h1))
  obtain ⟨e, rfl, he⟩ := natural_nat h2.1
  obtain ⟨xs, n, rfl, hl, hx⟩ := asked_font h2.2
  have hn : xs.length / 16 = n := by omega
  have hg : (glyphs xs).length = n := by
    unfold Sh60.glyphs
    rw [List.length_map, List.length_range]
    exact hn
  have due : PySh60.lt_groups (e : Int) (iL xs) = Sh60Neutral.told (Sh60.answer (if Sh60.some_ ((Sh60Neutral.nats (iL xs)).length / 16) = true then .groups e (Sh60Neutral.nats (iL xs)) else .bad)) := rfl
  rw [nats_iL, hn] at due
  refine ⟨e, xs, n, rfl, rfl, he, hl, hx, fun c gs hgs hw => ?_, fun c => ?_⟩
  · rw [due, if_pos c]
    obtain ⟨g1, g2⟩ := groups_are e (glyphs xs)
    have eg : groups e (glyphs xs) = gs := by
      refine List.ext_getElem? fun j => ?_
      by_cases hj : j < n
      · have e1 : (groups e (glyphs xs))[j]? = some (groups e (glyphs xs))[j] := List.getElem?_eq_getElem (by omega)
        have e2 : gs[j]? = some gs[j] := List.getElem?_eq_getElem (by omega)
        have lab := (g2 j _ e1).1
        obtain ⟨w1, w2⟩ := hw j _ e2
        have lab2 : Lab (nearOf e (glyphs xs)) j gs[j] := ⟨(way_is hl hx hj).mpr w1, fun m hm r => w2 m hm ((way_is hl hx hj).mp r)⟩
        rw [e1, e2, lab.uniq lab2]
      · rw [List.getElem?_eq_none (by omega), List.getElem?_eq_none (by omega)]
    show ((((union [] (groups e (glyphs xs))).length : Nat) : Int)) :: iL (groups e (glyphs xs)) = _
    rw [groups_count, hg, eg]
    rfl
  · rw [due, if_neg (by rw [c]; exact Bool.false_ne_true)]
    rfl

/-! ### lt_score -/
theorem foldl_add : ∀ (l : List Int) (s : Int), l.foldl (fun (a z : Int) => a + z) s = s + l.sum
  | [], s => by simp
  | a :: r, s => by
    rw [List.foldl_cons, foldl_add r, List.sum_cons]
    omega
theorem score_is (x w : List Nat) (s : Int) : score x w s = s + ((x.zip w).map fun p => (p.1 : Int) * signed p.2).sum := by
  unfold Sh60.score
  rw [foldl_add]

/-! ### lt_vote -/
/-- the sum of the squares of the differences -/
theorem squares_is (a b : List Nat) : ((squares a b : Nat) : Int) = ((a.zip b).map fun p => ((p.1 : Int) - p.2) * ((p.1 : Int) - p.2)).sum := by
  unfold Sh60.squares
  rw [← iL_sum]
  unfold iL
  rw [List.map_map]
  refine congrArg List.sum (List.map_congr_left fun p _ => ?_)
  show (((max p.1 p.2 - min p.1 p.2) * (max p.1 p.2 - min p.1 p.2) : Nat) : Int) = _
  rw [Int.natCast_mul]
  rcases Nat.le_total p.1 p.2 with h | h
  · rw [Nat.max_eq_right h, Nat.min_eq_left h]
    have e : (((p.2 - p.1 : Nat)) : Int) = -((p.1 : Int) - p.2) := by omega
    rw [e, Int.neg_mul_neg]
  · rw [Nat.max_eq_left h, Nat.min_eq_right h]
    have e : (((p.1 - p.2 : Nat)) : Int) = (p.1 : Int) - p.2 := by omega
    rw [e]
def leP (p q : Nat × Nat) : Bool := decide (p.1 < q.1) || (p.1 == q.1 && decide (p.2 ≤ q.2))
theorem leP_iff {p q : Nat × Nat} : leP p q = true ↔ p.1 < q.1 ∨ (p.1 = q.1 ∧ p.2 ≤ q.2) := by
  unfold leP
  rw [Bool.or_eq_true, Bool.and_eq_true, decide_eq_true_iff, decide_eq_true_iff, beq_iff_eq]
/-- what is in order is what mergeSort gives -/
theorem sorted_is {l S : List (Nat × Nat)} (hp : S.Perm l) (hs : S.Pairwise fun p q => leP p q = true) : l.mergeSort leP = S := by
  refine List.Perm.eq_of_pairwise (le := fun p q => leP p q = true) (fun a b _ _ h1 h2 => ?_) (List.pairwise_mergeSort (fun a b c h1 h2 => ?_) (fun a b => ?_) l) hs ((List.mergeSort_perm l leP).trans hp.symm)
  · have q1 := leP_iff.mp h1
    have q2 := leP_iff.mp h2
    exact Prod.ext (by omega) (by omega)
  · have q1 := leP_iff.mp h1
    have q2 := leP_iff.mp h2
    exact leP_iff.mpr (by omega)
  · rw [Bool.or_eq_true, leP_iff, leP_iff]
    omega
theorem nearest_ones {k : Nat} {l : List (List Nat)} {x : List Nat} {S : List (Nat × Nat)} (hp : S.Perm (l.map (squares x)).zipIdx) (hs : S.Pairwise fun p q => leP p q = true) : nearestOnes k l x = (S.take k).map fun p => p.2 := by
  unfold Sh60.nearestOnes
  exact congrArg (fun (q : List (Nat × Nat)) => (q.take k).map fun p => p.2) (sorted_is hp hs)
/-- of v the one with the greatest f, the first of such -/
structure Most (f : Nat → Nat) (v : List Nat) (n c : Nat) : Prop where
  here : ∃ k : Nat, v[k]? = some n ∧ ∀ (j m : Nat), j < k → v[j]? = some m → f m < c
  val : c = f n
  high : ∀ m ∈ v, f m ≤ c
theorem Most.uniq {f : Nat → Nat} {v : List Nat} {n c m e : Nat} (h : Most f v n c) (g : Most f v m e) : n = m ∧ c = e := by
  obtain ⟨k, hk, ak⟩ := h.here
  obtain ⟨j, hj, aj⟩ := g.here
  have q1 := h.high m (List.mem_of_getElem? hj)
  have q2 := g.high n (List.mem_of_getElem? hk)
  have v1 := h.val
  have v2 := g.val
  have ce : c = e := by omega
  refine ⟨?_, ce⟩
  rcases Nat.lt_trichotomy k j with z | z | z
  · have := aj k n z hk
    omega
  · subst z
    rw [hk] at hj
    exact Option.some.inj hj
  · have := ak j m z hj
    omega
theorem Most.more {f : Nat → Nat} {v : List Nat} {n c y : Nat} (h : Most f v n c) (hy : c < f y) : Most f (v ++ [y]) y (f y) := by
  refine ⟨⟨v.length, by rw [List.getElem?_append_right (Nat.le_refl _), Nat.sub_self]; rfl, fun j m hj e => ?_⟩, rfl, fun m hm => ?_⟩
  · rw [List.getElem?_append_left hj] at e
    exact Nat.lt_of_le_of_lt (h.high m (List.mem_of_getElem? e)) hy
  · rcases List.mem_append.mp hm with z | z
    · exact Nat.le_of_lt (Nat.lt_of_le_of_lt (h.high m z) hy)
    · rw [List.mem_singleton.mp z]
      exact Nat.le_refl _
theorem Most.keep {f : Nat → Nat} {v : List Nat} {n c y : Nat} (h : Most f v n c) (hy : f y ≤ c) : Most f (v ++ [y]) n c := by
  obtain ⟨k, hk, ak⟩ := h.here
  have hlt := (List.getElem?_eq_some_iff.mp hk).1
  refine ⟨⟨k, by rw [List.getElem?_append_left hlt]; exact hk, fun j m hj e => ?_⟩, h.val, fun m hm => ?_⟩
  · rw [List.getElem?_append_left (by omega)] at e
    exact ak j m hj e
  · rcases List.mem_append.mp hm with z | z
    · exact h.high m z
    · rw [List.mem_singleton.mp z]
      exact hy
theorem Most.one {f : Nat → Nat} (y : Nat) : Most f [y] y (f y) :=
  ⟨⟨0, rfl, fun j m hj _ => by omega⟩, rfl, fun m hm => by rw [List.mem_singleton.mp hm]; exact Nat.le_refl _⟩
theorem vote_fold (f : Nat → Nat) : ∀ (r v : List Nat) (n c : Nat), Most f v n c → ∃ n' c', r.foldl (fun (b : Nat × Nat) (m : Nat) => if b.2 < f m then (m, f m) else b) (n, c) = (n', c') ∧ Most f (v ++ r) n' c'
  | [], v, n, c, h => ⟨n, c, rfl, by rw [List.append_nil]; exact h⟩
  | y :: r, v, n, c, h => by
    have ea : v ++ y :: r = (v ++ [y]) ++ r := by rw [List.append_assoc]; rfl
    rw [List.foldl_cons, ea]
    by_cases q : c < f y
    · rw [if_pos (show (n, c).2 < f y from q)]
      exact vote_fold f r (v ++ [y]) y (f y) (h.more q)
    · rw [if_neg (show ¬ (n, c).2 < f y from q)]
      exact vote_fold f r (v ++ [y]) n c (h.keep (by omega))
/-- how many of v are n -/
def timesIn (v : List Nat) (n : Nat) : Nat := (v.filter fun m => m == n).length
theorem voted_is {k : Nat} {names : List Nat} {l : List (List Nat)} {x v : List Nat} (hv : (nearestOnes k l x).map (num names) = v) {n c : Nat} (h : Most (timesIn v) v n c) : voted k names l x = (n, c) := by
  unfold Sh60.voted
  rw [hv]
  show v.foldl (fun (b : Nat × Nat) (m : Nat) => if b.2 < timesIn v m then (m, timesIn v m) else b) (0, 0) = _
  cases e : v with
  | nil =>
    obtain ⟨k, hk, _⟩ := h.here
    rw [e] at hk
    simp at hk
  | cons y r =>
    rw [← e]
    have pos : 0 < timesIn v y := by
      unfold timesIn
      exact List.length_pos_of_mem (List.mem_filter.mpr ⟨by rw [e]; exact List.mem_cons_self, beq_self_eq_true y⟩)
    obtain ⟨n', c', e1, m⟩ := vote_fold (timesIn v) r [y] y (timesIn v y) (Most.one y)
    have m' : Most (timesIn v) v n' c' := by
      rw [e]
      rw [e] at m
      exact m
    have st : v.foldl (fun (b : Nat × Nat) (m : Nat) => if b.2 < timesIn v m then (m, timesIn v m) else b) (0, 0) = r.foldl (fun (b : Nat × Nat) (m : Nat) => if b.2 < timesIn v m then (m, timesIn v m) else b) (y, timesIn v y) := by
      generalize timesIn v = f at *
      rw [e, List.foldl_cons, if_pos (show ((0, 0) : Nat × Nat).2 < f y from pos)]
    rw [st, e1]
    obtain ⟨q1, q2⟩ := m'.uniq h
    rw [q1, q2]
end Lt
namespace Lt
open Sh60 (num glyph glyphs SIDE Glyph union groups signed score squares nearestOnes voted int32 wordOf chunks)

/-- the k-th row of 64 -/
def row64 (w : List Nat) (k : Nat) : List Nat := (w.drop (64 * k)).take 64
theorem row64_len {w : List Nat} {n k : Nat} (h : w.length = 64 * n) (hk : k < n) : (row64 w k).length = 64 := by
  unfold row64
  rw [List.length_take, List.length_drop]
  omega
theorem row64_mem {w : List Nat} {k x : Nat} (h : x ∈ row64 w k) : x ∈ w := List.mem_of_mem_drop (List.mem_of_mem_take h)
theorem chunks_is {w : List Nat} {n : Nat} (h : w.length = 64 * n) : chunks 64 w = (List.range n).map (row64 w) := by
  unfold Sh60.chunks
  rw [show w.length / 64 = n by omega]
  rfl
theorem zip_range {α : Type} {n : Nat} (f : Nat → α) (st : List Nat) (h : st.length = n) : ((List.range n).map f).zip st = (List.range n).map fun k => (f k, st.getD k 0) := by
  refine List.ext_getElem? fun j => ?_
  rw [List.getElem?_map]
  by_cases hj : j < n
  · have e : (((List.range n).map f).zip st)[j]? = some (f j, st[j]'(by omega)) := by
      refine List.getElem?_zip_eq_some.mpr ⟨?_, List.getElem?_eq_getElem _⟩
      rw [List.getElem?_map, List.getElem?_range hj]
      rfl
    rw [e, List.getElem?_range hj]
    show _ = some (f j, st.getD j 0)
    rw [List.getD_eq_getElem?_getD, List.getElem?_eq_getElem (show j < st.length by omega)]
    rfl
  · rw [List.getElem?_eq_none (by rw [List.length_zip, List.length_map, List.length_range]; omega), List.getElem?_eq_none (by rw [List.length_range]; omega)]
    rfl
/-- the sum of row k -/
def scoreOf (w st x : List Nat) (k : Nat) : Int := int32 (st.getD k 0) + ((x.zip (row64 w k)).map fun p => (p.1 : Int) * signed p.2).sum
theorem scores_are {w st x : List Nat} {n : Nat} (hw : w.length = 64 * n) (hs : st.length = n) : ((chunks 64 w).zip st).map (fun p => score x p.1 (int32 p.2)) = (List.range n).map (scoreOf w st x) := by
  rw [chunks_is hw, zip_range _ _ hs, List.map_map]
  refine List.map_congr_left fun k _ => ?_
  exact score_is x (row64 w k) (int32 (st.getD k 0))
theorem due_score (w start x : List Int) (h : PySh60.lt_score_asked w start x = true) : ∃ (ws st xs : List Nat) (n : Nat), w = iL ws ∧ start = iL st ∧ x = iL xs ∧ st.length = n ∧ (∀ v ∈ ws, v < 256) ∧ (∀ v ∈ st, v < 4294967296) ∧ (∀ v ∈ xs, v < 256) ∧
    (Sh60.some_ n = true → ws.length = 64 * n ∧ xs.length = 64) ∧
    (Sh60.some_ n = true → ∀ k v, Top ((List.range n).map (scoreOf ws st xs)) k v → PySh60.lt_score w start x = (k : Int) :: ((List.range n).map (scoreOf ws st xs)).map fun z => z % 4294967296) ∧
    (Sh60.some_ n = false → PySh60.lt_score w start x = [-2]) := by
  have h1 : Sh60Neutral.asked1 [[9], w, start, x] = true := (Bool.and_eq_true _ _ ▸ (show (Sh60Neutral.asked1 [[9], w, start, x] && _) = true from h)).1
  have h2 : (w.all (fun z => Sh60Neutral.natural z 8) && (start.all (fun z => Sh60Neutral.natural z 32) && (x.all (fun z => Sh60Neutral.natural z 8) && (if Sh60.some_ ((Sh60Neutral.nats start).length) = true then w.length == (64 * ((Sh60Neutral.nats start).length)) && start.length == ((Sh60Neutral.nats start).length) && x.length == 64 else (w.isEmpty && start.isEmpty && x.isEmpty) || (w.length == (64 * ((Sh60Neutral.nats start).length)) && start.length == ((Sh60Neutral.nats start).length) && x.length == 64))))) = true := h1
  rw [Bool.and_eq_true, Bool.and_eq_true, Bool.and_eq_true] at h2
  obtain ⟨b1, b2, b3, b4⟩ := h2
  obtain ⟨ws, rfl, hw⟩ := nats_of w b1
  obtain ⟨st, rfl, hs⟩ := nats_of start b2
  obtain ⟨xs, rfl, hx⟩ := nats_of x b3
  rw [nats_iL, iL_length, iL_length, iL_length] at b4
  have due : PySh60.lt_score (iL ws) (iL st) (iL xs) = Sh60Neutral.told (Sh60.answer (if Sh60.some_ ((Sh60Neutral.nats (iL st)).length) = true then .score (Sh60Neutral.nats (iL ws)) (Sh60Neutral.nats (iL st)) (Sh60Neutral.nats (iL xs)) else .bad)) := rfl
  rw [nats_iL, nats_iL, nats_iL] at due
  have L : Sh60.some_ st.length = true → ws.length = 64 * st.length ∧ xs.length = 64 := fun c => by
    rw [if_pos c] at b4
    simp only [Bool.and_eq_true, beq_iff_eq] at b4
    exact ⟨b4.1.1, b4.2⟩
  refine ⟨ws, st, xs, st.length, rfl, rfl, rfl, rfl, hw, hs, hx, L, fun c k v T => ?_, fun c => ?_⟩
  · rw [due, if_pos c]
    show ((Sh60.bestScore (((chunks 64 ws).zip st).map (fun p => score xs p.1 (int32 p.2))) : Nat) : Int) :: iL ((((chunks 64 ws).zip st).map (fun p => score xs p.1 (int32 p.2))).map wordOf) = _
    rw [scores_are (L c).1 rfl, best_of T]
    refine congrArg (fun l => (k : Int) :: l) ?_
    unfold iL
    rw [List.map_map]
    refine List.map_congr_left fun z _ => ?_
    show (((z % 4294967296).toNat : Nat) : Int) = z % 4294967296
    have := Int.emod_nonneg z (show (4294967296 : Int) ≠ 0 by decide)
    omega
  · rw [due, if_neg (by rw [c]; exact Bool.false_ne_true)]
    rfl
/-- how far (by squares) the rows are, with their places -/
def farRows (l x : List Nat) (n : Nat) : List (Nat × Nat) := ((List.range n).map fun m => squares x (row64 l m)).zipIdx
theorem squares_map {l x : List Nat} {n : Nat} (h : l.length = 64 * n) : ((chunks 64 l).map (squares x)).zipIdx = farRows l x n := by
  rw [chunks_is h, List.map_map]
  rfl
theorem due_vote (k : Int) (names l x : List Int) (h : PySh60.lt_vote_asked k names l x = true) : ∃ (t : Nat) (ns ls xs : List Nat) (n : Nat), k = t ∧ names = iL ns ∧ l = iL ls ∧ x = iL xs ∧ t < 4294967296 ∧ ns.length = n ∧ (∀ v ∈ ns, v < 4294967296) ∧ (∀ v ∈ ls, v < 256) ∧ (∀ v ∈ xs, v < 256) ∧
    (Sh60.some_ n = true → 1 ≤ t → t ≤ n → ls.length = 64 * n ∧ xs.length = 64) ∧
    (Sh60.some_ n = true → 1 ≤ t → t ≤ n → ∀ S : List (Nat × Nat), S.Perm (farRows ls xs n) → (S.Pairwise fun p q => leP p q = true) → ∀ (v : List Nat) (m c : Nat), ((S.take t).map fun p => num ns p.2) = v → Most (timesIn v) v m c → PySh60.lt_vote k names l x = iL [0, m, c]) ∧
    (¬ (Sh60.some_ n = true ∧ 1 ≤ t ∧ t ≤ n) → PySh60.lt_vote k names l x = [-2]) := by
  have h1 : Sh60Neutral.asked1 [[10, k], names, l, x] = true := (Bool.and_eq_true _ _ ▸ (show (Sh60Neutral.asked1 [[10, k], names, l, x] && _) = true from h)).1
  have h2 : (Sh60Neutral.natural k 32 && (names.all (fun z => Sh60Neutral.natural z 32) && (l.all (fun z => Sh60Neutral.natural z 8) && (x.all (fun z => Sh60Neutral.natural z 8) && (if (Sh60.some_ ((Sh60Neutral.nats names).length) && Sh60.among (k.toNat) 1 ((Sh60Neutral.nats names).length)) = true then names.length == ((Sh60Neutral.nats names).length) && l.length == (64 * ((Sh60Neutral.nats names).length)) && x.length == 64 else (names.isEmpty && l.isEmpty && x.isEmpty) || (names.length == ((Sh60Neutral.nats names).length) && l.length == (64 * ((Sh60Neutral.nats names).length)) && x.length == 64)))))) = true := h1
  rw [Bool.and_eq_true, Bool.and_eq_true, Bool.and_eq_true, Bool.and_eq_true] at h2
  obtain ⟨b0, b1, b2, b3, b4⟩ := h2
  obtain ⟨t, rfl, ht⟩ := natural_nat b0
  obtain ⟨ns, rfl, hns⟩ := nats_of names b1
  obtain ⟨ls, rfl, hls⟩ := nats_of l b2
  obtain ⟨xs, rfl, hxs⟩ := nats_of x b3
  rw [nats_iL, iL_length, iL_length, iL_length, Int.toNat_natCast] at b4
  have due : PySh60.lt_vote (t : Int) (iL ns) (iL ls) (iL xs) = Sh60Neutral.told (Sh60.answer (if (Sh60.some_ ((Sh60Neutral.nats (iL ns)).length) && Sh60.among t 1 ((Sh60Neutral.nats (iL ns)).length)) = true then .vote t (Sh60Neutral.nats (iL ns)) (Sh60Neutral.nats (iL ls)) (Sh60Neutral.nats (iL xs)) else .bad)) := rfl
  rw [nats_iL, nats_iL, nats_iL] at due
  have cond : ∀ {n : Nat}, Sh60.some_ n = true → 1 ≤ t → t ≤ n → (Sh60.some_ n && Sh60.among t 1 n) = true := fun q1 q2 q3 => by
    unfold Sh60.among
    rw [q1, decide_eq_true q2, decide_eq_true q3]
    rfl
  have L : Sh60.some_ ns.length = true → 1 ≤ t → t ≤ ns.length → ls.length = 64 * ns.length ∧ xs.length = 64 := fun q1 q2 q3 => by
    rw [if_pos (cond q1 q2 q3)] at b4
    simp only [Bool.and_eq_true, beq_iff_eq] at b4
    exact ⟨b4.1.2, b4.2⟩
  refine ⟨t, ns, ls, xs, ns.length, rfl, rfl, rfl, rfl, ht, rfl, hns, hls, hxs, L, fun q1 q2 q3 S hp hs v m c hv M => ?_, fun q => ?_⟩
  · rw [due, if_pos (cond q1 q2 q3)]
    have e : voted t ns (chunks 64 ls) xs = (m, c) := by
      refine voted_is (v := v) ?_ M
      rw [nearest_ones (S := S) (by rw [squares_map (L q1 q2 q3).1]; exact hp) hs, List.map_map]
      exact hv
    show (0 : Int) :: iL [(voted t ns (chunks 64 ls) xs).1, (voted t ns (chunks 64 ls) xs).2] = _
    rw [e]
    rfl
  · rw [due, if_neg (fun z => q (by
      unfold Sh60.among at z
      rw [Bool.and_eq_true, Bool.and_eq_true] at z
      exact ⟨z.1, of_decide_eq_true z.2.1, of_decide_eq_true z.2.2⟩))]
    rfl
end Lt
namespace Lt
open Sh60 (num)

/-! ### lt_but: letters without the dots of another -/
def wo (xs cs : List Nat) : List Nat := (xs.zip cs).map fun p => p.1 - (p.1 &&& p.2)
theorem less_xor (x y c : Nat) : (x - (x &&& c)) ^^^ (y - (y &&& c)) = (y ^^^ x) - ((y ^^^ x) &&& c) := by
  refine Nat.eq_of_testBit_eq fun i => ?_
  rw [Nat.testBit_xor, testBit_less, testBit_less, testBit_less, Nat.testBit_xor]
  cases x.testBit i <;> cases y.testBit i <;> cases c.testBit i <;> rfl
theorem zipAt {α β : Type} {xs : List α} {ys : List β} {i : Nat} {x : α} {y : β} (h1 : xs[i]? = some x) (h2 : ys[i]? = some y) : (xs.zip ys)[i]? = some (x, y) := List.getElem?_zip_eq_some.mpr ⟨h1, h2⟩
theorem num_at {l : List Nat} {j : Nat} (h : j < l.length) : l[j]? = some (num l j) := by
  unfold num
  rw [List.getD_eq_getElem?_getD, List.getElem?_eq_getElem h]
  rfl
theorem wo_at {xs cs : List Nat} {j : Nat} (h1 : j < xs.length) (h2 : j < cs.length) : (wo xs cs)[j]? = some (num xs j - (num xs j &&& num cs j)) := by
  unfold wo
  rw [List.getElem?_map, zipAt (num_at h1) (num_at h2)]
  rfl
theorem wo_len {xs cs : List Nat} (h1 : xs.length = 16) (h2 : cs.length = 16) : (wo xs cs).length = 16 := by
  unfold wo
  rw [List.length_map, List.length_zip, h1, h2]
  rfl
theorem far_wo {L ys cs : List Nat} (hL : L.length = 16) (hy : ys.length = 16) (hc : cs.length = 16) : far (wo L cs) (wo ys cs) = butFar cs ys L := by
  unfold far butFar
  refine congrArg List.sum (List.ext_getElem? fun j => ?_)
  rw [List.getElem?_map, List.getElem?_map]
  by_cases hj : j < 16
  · rw [zipAt (wo_at (by omega) (by omega)) (wo_at (xs := ys) (by omega) (by omega)), List.getElem?_range hj]
    show some (pop ((num L j - (num L j &&& num cs j)) ^^^ (num ys j - (num ys j &&& num cs j)))) = some (butRow (num ys j) (num L j) (num cs j))
    rw [less_xor]
    rfl
  · rw [List.getElem?_eq_none (by rw [List.length_zip, wo_len hL hc]; omega), List.getElem?_eq_none (by rw [List.length_range]; omega)]
    rfl

/-! ### sums over places -/
def sumTo (n : Nat) (f : Nat → Nat) : Nat := ((List.range n).map f).sum
theorem sumTo_succ (n : Nat) (f : Nat → Nat) : sumTo (n + 1) f = sumTo n f + f n := by
  unfold sumTo
  rw [List.range_succ, List.map_append, List.sum_append]
  rfl
theorem sumTo_congr {n : Nat} {f g : Nat → Nat} (h : ∀ i, i < n → f i = g i) : sumTo n f = sumTo n g := congrArg List.sum (List.map_congr_left fun i hi => h i (List.mem_range.mp hi))
theorem sumTo_add (f g : Nat → Nat) : ∀ n, sumTo n (fun i => f i + g i) = sumTo n f + sumTo n g
  | 0 => rfl
  | n + 1 => by
    rw [sumTo_succ, sumTo_succ, sumTo_succ, sumTo_add f g n]
    omega
theorem sumTo_zero : ∀ n, sumTo n (fun _ => 0) = 0
  | 0 => rfl
  | n + 1 => by rw [sumTo_succ, sumTo_zero n]
theorem sumTo_swap (f : Nat → Nat → Nat) (m : Nat) : ∀ n, sumTo n (fun a => sumTo m (f a)) = sumTo m (fun b => sumTo n fun a => f a b)
  | 0 => (sumTo_zero m).symm
  | n + 1 => by
    rw [sumTo_succ, sumTo_swap f m n, ← sumTo_add]
    exact sumTo_congr fun b _ => (sumTo_succ n fun a => f a b).symm
theorem cnt_sum (p : Nat → Bool) : ∀ n, cnt n p = sumTo n fun i => (p i).toNat
  | 0 => rfl
  | n + 1 => by
    rw [sumTo_succ, ← cnt_sum p n]
    unfold cnt
    rw [List.range_succ, List.filter_append, List.length_append]
    cases h : p n with
    | true => rw [List.filter_cons_of_pos h]; rfl
    | false => rw [List.filter_cons_of_neg (by rw [h]; exact Bool.false_ne_true)]; rfl
theorem cnt_not (p : Nat → Bool) (b : Bool) (n : Nat) : (cnt n fun i => p i ^^ b) = if b = true then n - cnt n p else cnt n p := by
  cases b with
  | false =>
    rw [if_neg Bool.false_ne_true]
    exact cnt_congr fun i _ => Bool.xor_false _
  | true =>
    rw [if_pos rfl]
    induction n with
    | zero => rfl
    | succ n ih =>
      have e : ∀ q : Nat → Bool, cnt (n + 1) q = cnt n q + (q n).toNat := fun q => by rw [cnt_sum, sumTo_succ, ← cnt_sum]
      have := cnt_le n p
      rw [e, e, ih]
      cases p n <;> simp <;> omega

/-! ### lt_middle: all letters' dots counted place by place -/
/-- how far, of the dots at place i of row j -/
def loneAt (xs : List Nat) (n k j i : Nat) : Nat := if (num (letter xs k) j).testBit i = true then n - dotsAt xs n j i else dotsAt xs n j i
def loneRow (xs : List Nat) (n k j : Nat) : Nat := sumTo 16 (loneAt xs n k j)
theorem far_places {a b : List Nat} (ha : a.length = 16) (hb : b.length = 16) (la : ∀ x ∈ a, x < 65536) (lb : ∀ x ∈ b, x < 65536) : far a b = sumTo 16 fun j => sumTo 16 fun i => ((num a j).testBit i ^^ (num b j).testBit i).toNat := by
  unfold far sumTo
  refine congrArg List.sum (List.ext_getElem? fun j => ?_)
  rw [List.getElem?_map, List.getElem?_map]
  by_cases hj : j < 16
  · rw [zipAt (num_at (l := a) (by omega)) (num_at (l := b) (by omega)), List.getElem?_range hj]
    refine congrArg some ?_
    show pop (num a j ^^^ num b j) = sumTo 16 fun i => ((num a j).testBit i ^^ (num b j).testBit i).toNat
    rw [pop_cnt 16 _ (Nat.xor_lt_two_pow (num_lt la (by omega)) (num_lt lb (by omega))), cnt_sum]
    exact sumTo_congr fun i _ => by rw [Nat.testBit_xor]
  · rw [List.getElem?_eq_none (by rw [List.length_zip]; omega), List.getElem?_eq_none (by rw [List.length_range]; omega)]
    rfl
theorem total_lone {xs : List Nat} {n k : Nat} (hl : xs.length = 16 * n) (hx : ∀ x ∈ xs, x < 65536) (hk : k < n) : totalOf xs n k = sumTo 16 (loneRow xs n k) := by
  have e : totalOf xs n k = sumTo n fun m => sumTo 16 fun j => sumTo 16 fun i => ((num (letter xs m) j).testBit i ^^ (num (letter xs k) j).testBit i).toNat :=
    sumTo_congr fun m hm => far_places (letter_len hl hm) (letter_len hl hk) (fun x h => hx x (letter_mem h)) (fun x h => hx x (letter_mem h))
  rw [e, sumTo_swap]
  refine sumTo_congr fun j _ => ?_
  rw [sumTo_swap]
  refine sumTo_congr fun i _ => ?_
  unfold loneAt dotsAt
  rw [← cnt_not, cnt_sum]

/-! ### lt_nearest -/
theorem pop_le16 {n : Nat} (h : n < 65536) : pop n ≤ 16 := by
  rw [pop_cnt 16 n h]
  exact cnt_le _ _
theorem sum_le {b : Nat} : ∀ l : List Nat, (∀ x ∈ l, x ≤ b) → l.sum ≤ l.length * b
  | [], _ => by simp
  | a :: r, h => by
    rw [List.sum_cons, List.length_cons, Nat.succ_mul]
    have h1 := h a List.mem_cons_self
    have h2 := sum_le r fun x hx => h x (List.mem_cons_of_mem _ hx)
    omega
theorem far_le {a b : List Nat} (ha : a.length ≤ 16) (la : ∀ x ∈ a, x < 65536) (lb : ∀ x ∈ b, x < 65536) : far a b ≤ 256 := by
  unfold far
  refine Nat.le_trans (sum_le (b := 16) _ fun x hx => ?_) ?_
  · obtain ⟨⟨p, q⟩, hp, rfl⟩ := List.mem_map.mp hx
    obtain ⟨h1, h2⟩ := List.of_mem_zip hp
    exact pop_le16 (Nat.xor_lt_two_pow (n := 16) (la _ h1) (lb _ h2))
  · rw [List.length_map, List.length_zip]
    omega
theorem nearBy_mem (s : Nat) (a L : List Nat) : ∃ m ∈ Sh60.moves s, far (movedRows m.1 m.2 a) L = nearBy s a L := by
  have ne : (Sh60.moves s).map (fun m => far (movedRows m.1 m.2 a) L) ≠ [] := by
    refine List.ne_nil_of_mem (a := far (movedRows 0 0 a) L) (List.mem_map.mpr ⟨(0, 0), mem_moves.mpr ?_, rfl⟩)
    show -(s : Int) ≤ 0 ∧ (0 : Int) ≤ s ∧ -(s : Int) ≤ 0 ∧ (0 : Int) ≤ s
    omega
  obtain ⟨m, hm, e⟩ := List.mem_map.mp (least_mem ne)
  exact ⟨m, hm, e⟩
theorem nearBy_le {s : Nat} {a L : List Nat} (ha : a.length = 16) (la : ∀ x ∈ a, x < 65536) (lL : ∀ x ∈ L, x < 65536) : nearBy s a L ≤ 256 := by
  obtain ⟨m, _, e⟩ := nearBy_mem s a L
  rw [← e]
  exact far_le (by rw [movedRows_len]; exact Nat.le_refl _) (movedRows_lt _ _ _ fun j hj => num_lt la (by omega)) lL
/-- the q-th move -/
def mvRows (s : Nat) (a : List Nat) (q : Nat) : List Nat := movedRows (((q % (2 * s + 1) : Nat) : Int) - s) (((q / (2 * s + 1) : Nat) : Int) - s) a
theorem nearBy_of {s : Nat} {a L : List Nat} {v : Nat} (h : v ∈ (List.range ((2 * s + 1) * (2 * s + 1))).map fun q => far L (mvRows s a q)) (m : ∀ x ∈ (List.range ((2 * s + 1) * (2 * s + 1))).map fun q => far L (mvRows s a q), v ≤ x) : nearBy s a L = v := by
  refine nearBy_eq ?_ fun dx dy h1 h2 h3 h4 => ?_
  · obtain ⟨q, hq, e⟩ := List.mem_map.mp h
    have hq := List.mem_range.mp hq
    have b1 : q % (2 * s + 1) < 2 * s + 1 := Nat.mod_lt _ (by omega)
    have b2 : q / (2 * s + 1) < 2 * s + 1 := Nat.div_lt_of_lt_mul hq
    have e' : far L (movedRows (((q % (2 * s + 1) : Nat) : Int) - s) (((q / (2 * s + 1) : Nat) : Int) - s) a) = v := e
    generalize q % (2 * s + 1) = u at b1 e'
    generalize q / (2 * s + 1) = t at b2 e'
    exact ⟨(u : Int) - s, (t : Int) - s, by omega, by omega, by omega, by omega, (far_comm _ _).trans e'⟩
  · have e : far (movedRows dx dy a) L = far L (mvRows s a ((dy + s).toNat * (2 * s + 1) + (dx + s).toNat)) := by
      rw [far_comm]
      unfold mvRows
      have d1 : ((dy + s).toNat * (2 * s + 1) + (dx + s).toNat) % (2 * s + 1) = (dx + s).toNat := by
        rw [Nat.mul_comm, Nat.mul_add_mod, Nat.mod_eq_of_lt (by omega)]
      have d2 : ((dy + s).toNat * (2 * s + 1) + (dx + s).toNat) / (2 * s + 1) = (dy + s).toNat := by
        rw [Nat.mul_comm, Nat.mul_add_div (by omega), Nat.div_eq_of_lt (by omega), Nat.add_zero]
      rw [d1, d2, show (((dx + s).toNat : Nat) : Int) - s = dx by omega, show (((dy + s).toNat : Nat) : Int) - s = dy by omega]
    rw [e]
    refine m _ (List.mem_map.mpr ⟨_, List.mem_range.mpr ?_, rfl⟩)
    have hy : (dy + s).toNat + 1 ≤ 2 * s + 1 := by omega
    have hm := Nat.mul_le_mul_right (2 * s + 1) hy
    rw [Nat.add_mul, Nat.one_mul] at hm
    have : (dx + s).toNat < 2 * s + 1 := by omega
    omega
/-- white from above, the rest leaves below -/
theorem moved_down {dx : Int} {d : Nat} {a : List Nat} (ha : a.length = 16) (hd : d ≤ 16) : (List.replicate d 0 ++ a.map (shiftBy dx)).take 16 = movedRows dx d a := by
  unfold movedRows
  refine List.ext_getElem? fun j => ?_
  rw [List.getElem?_map, List.getElem?_take]
  by_cases hj : j < 16
  · rw [if_pos hj, List.getElem?_range hj]
    show _ = some (movedRow dx d a j)
    unfold movedRow
    by_cases h : j < d
    · rw [List.getElem?_append_left (by rw [List.length_replicate]; exact h), List.getElem?_replicate, if_pos h, if_neg (by omega)]
    · rw [List.getElem?_append_right (by rw [List.length_replicate]; omega), List.length_replicate, List.getElem?_map, num_at (by omega), if_pos (by omega), show ((j : Int) - d).toNat = j - d by omega]
      rfl
  · rw [if_neg hj, List.getElem?_eq_none (by rw [List.length_range]; omega)]
    rfl
/-- white from below, the rest leaves above -/
theorem moved_up {dx dy : Int} {d : Nat} {a : List Nat} (ha : a.length = 16) (hd : d ≤ 16) (e : dy = -(d : Int)) : (a.map (shiftBy dx) ++ List.replicate d 0).drop d = movedRows dx dy a := by
  unfold movedRows
  subst e
  refine List.ext_getElem? fun j => ?_
  rw [List.getElem?_map, List.getElem?_drop]
  by_cases hj : j < 16
  · rw [List.getElem?_range hj]
    show _ = some (movedRow dx (-(d : Int)) a j)
    unfold movedRow
    by_cases h : d + j < 16
    · rw [List.getElem?_append_left (by rw [List.length_map]; omega), List.getElem?_map, num_at (by omega), if_pos (by omega), show ((j : Int) - -(d : Int)).toNat = d + j by omega]
      rfl
    · rw [List.getElem?_append_right (by rw [List.length_map]; omega), List.length_map, List.getElem?_replicate, if_pos (by omega), if_neg (by omega)]
  · rw [List.getElem?_eq_none (by rw [List.length_append, List.length_map, List.length_replicate]; omega), List.getElem?_eq_none (by rw [List.length_range]; omega)]
    rfl
/-- the least of others, or 257 -/
theorem rest_least {l : List Nat} {v : Nat} (hb : ∀ x ∈ l, x ≤ 257) (h : (l = [] ∧ v = 257) ∨ (v ∈ l ∧ ∀ x ∈ l, v ≤ x)) : Sh60.least (257 :: l) = v := by
  rcases h with ⟨rfl, rfl⟩ | ⟨h1, h2⟩
  · rfl
  · refine least_eq (List.mem_cons_of_mem _ h1) fun x hx => ?_
    rcases List.mem_cons.mp hx with rfl | hx
    · exact hb v h1
    · exact h2 x hx
end Lt
namespace Lt
open Sh60 (num signed squares int32)

/-! ### the first place of a value -/
theorem first_at {α : Type} [DecidableEq α] {x : α} : ∀ {l : List α}, x ∈ l → ∃ k, l[k]? = some x ∧ ∀ (j : Nat) (y : α), j < k → l[j]? = some y → y ≠ x
  | [], h => by cases h
  | a :: r, h => by
    by_cases e : a = x
    · subst e
      exact ⟨0, rfl, fun j y hj _ => by omega⟩
    · have hx : x ∈ r := by
        rcases List.mem_cons.mp h with z | z
        · exact absurd z.symm e
        · exact z
      obtain ⟨k, h1, h2⟩ := first_at hx
      refine ⟨k + 1, h1, fun j y hj ey => ?_⟩
      cases j with
      | zero =>
        have q : a = y := Option.some.inj ey
        rw [← q]
        exact e
      | succ j => exact h2 j y (by omega) ey
theorem top_at {l : List Int} {m : Int} (h1 : m ∈ l) (h2 : ∀ y, y ∈ l → y ≤ m) : ∃ k, Top l k m := by
  obtain ⟨k, e, ne⟩ := first_at h1
  exact ⟨k, e, h2, fun j x hj ex => by
    have a := h2 x (List.mem_of_getElem? ex)
    have b := ne j x hj ex
    omega⟩

/-! ### parts of a list -/
def part (xs : List Nat) (c k : Nat) : List Nat := (xs.drop (c * k)).take c
theorem part_step {c k n : Nat} (h : k < n) : c * k + c ≤ c * n := by
  have := Nat.mul_le_mul_left c (show k + 1 ≤ n from h)
  rw [Nat.mul_succ] at this
  exact this

/-! ### scores -/
def sgn (c a : Nat) : Int := if c ≤ 2 * a then (a : Int) - c else a
theorem sgn_signed (a : Nat) : sgn 256 a = signed a := by
  unfold sgn Sh60.signed
  split <;> split <;> omega
theorem sgn_int32 (a : Nat) : sgn 4294967296 a = int32 a := by
  unfold sgn Sh60.int32
  split <;> split <;> omega
theorem zip_swap (f : Nat → Nat → Int) : ∀ a b : List Nat, ((a.zip b).map fun p => f p.1 p.2).sum = ((b.zip a).map fun p => f p.2 p.1).sum
  | [], b => by
    cases b <;> rfl
  | a :: r, [] => rfl
  | a :: r, b :: s => by
    rw [List.zip_cons_cons, List.zip_cons_cons, List.map_cons, List.map_cons, List.sum_cons, List.sum_cons, zip_swap f r s]
/-- what the program adds up -/
def scoreSum (row x : List Nat) (s : Nat) : Int := ((row.zip x).map fun p => sgn 256 p.1 * (p.2 : Int)).sum + sgn 4294967296 s
theorem score_sum (ws st xs : List Nat) (k : Nat) : scoreSum (row64 ws k) xs (num st k) = scoreOf ws st xs k := by
  unfold scoreSum scoreOf
  rw [zip_swap (fun a b => sgn 256 a * (b : Int)), sgn_int32, Int.add_comm]
  refine congr (congrArg _ rfl) (congrArg List.sum (List.map_congr_left fun p _ => ?_))
  show sgn 256 p.2 * (p.1 : Int) = (p.1 : Int) * signed p.2
  rw [sgn_signed, Int.mul_comm]

/-! ### squares -/
theorem sq_int (z : Int) : z ^ 2 = z * z := by
  rw [Int.pow_succ, Int.pow_succ, Int.pow_zero, Int.one_mul]
theorem squares_sum (row x : List Nat) : ((row.zip x).map fun p => ((p.1 : Int) - p.2) ^ 2).sum = ((squares x row : Nat) : Int) := by
  rw [zip_swap (fun a b => ((a : Int) - b) ^ 2), squares_is]
  refine congrArg List.sum (List.map_congr_left fun p _ => ?_)
  show ((p.2 : Int) - p.1) ^ 2 = _
  rw [sq_int, ← Int.neg_mul_neg, Int.neg_sub]

/-! ### votes -/
theorem count_times (n : Nat) : ∀ v : List Nat, (iL v).count (n : Int) = timesIn v n
  | [] => rfl
  | a :: r => by
    have ih := count_times n r
    unfold timesIn at ih ⊢
    have e : iL (a :: r) = (a : Int) :: iL r := rfl
    rw [e, List.count_cons, ih, List.filter_cons]
    by_cases h : a = n
    · subst h
      rw [if_pos (beq_self_eq_true _), if_pos (beq_self_eq_true _), List.length_cons]
    · rw [if_neg (by
        rw [beq_iff_eq]
        omega), if_neg (by
        rw [beq_iff_eq]
        exact h)]
      rfl
theorem most_of {v : List Nat} {k : Nat} {c : Int} (T : Top (iL (v.map (timesIn v))) k c) : ∃ m e : Nat, c = e ∧ v[k]? = some m ∧ Most (timesIn v) v m e := by
  have g : ∀ (j m : Nat), v[j]? = some m → (iL (v.map (timesIn v)))[j]? = some ((timesIn v m : Nat) : Int) := fun j m e => by
    unfold iL
    rw [List.getElem?_map, List.getElem?_map, e]
    rfl
  have hk : k < v.length := by
    have := (List.getElem?_eq_some_iff.mp T.here).1
    rw [iL_length, List.length_map] at this
    exact this
  have e := List.getElem?_eq_getElem hk
  have h := g k _ e
  rw [T.here] at h
  refine ⟨v[k], timesIn v v[k], Option.some.inj h, e, ⟨k, e, fun j m hj em => ?_⟩, rfl, fun m hm => ?_⟩
  · have a := T.ahead j _ hj (g j m em)
    rw [Option.some.inj h] at a
    exact Int.ofNat_lt.mp a
  · obtain ⟨j, ej⟩ := List.mem_iff_getElem?.mp hm
    have a := T.high _ (List.mem_of_getElem? (g j m ej))
    rw [Option.some.inj h] at a
    exact Int.ofNat_le.mp a

/-! ### groups: labels told one by one -/
section
variable {d : Nat} {xs : List Nat} {n : Nat}
theorem Way.trans {i j k : Nat} (h : Way d xs n i j) (g : Way d xs n j k) : Way d xs n i k := by
  induction g with
  | refl _ => exact h
  | step _ hk hf ih => exact ih.step hk hf
theorem Way.symm {i j : Nat} (h : Way d xs n i j) : Way d xs n j i := by
  induction h with
  | refl h => exact .refl h
  | step w hk hf ih => exact (Way.step (.refl hk) w.lt.2 (by rw [far_comm]; exact hf)).trans ih
/-- after the letters ahead of t -/
structure Lbl (d : Nat) (xs : List Nat) (n t : Nat) (L : List (Option Nat)) : Prop where
  len : L.length = n
  told : ∀ (j v : Nat), L[j]? = some (some v) → v < t ∧ Way d xs n v j ∧ ∀ m, m < v → ¬ Way d xs n m j
  not : ∀ j : Nat, L[j]? = some none → ∀ m, m < t → ¬ Way d xs n m j
theorem Lbl.start : Lbl d xs n 0 (List.replicate n none) := by
  refine ⟨List.length_replicate, fun j v e => ?_, fun j _ m hm => by omega⟩
  have h := List.eq_of_mem_replicate (List.mem_of_getElem? e)
  cases h
/-- what one call tells, from L0 -/
structure Told (d : Nat) (xs : List Nat) (n t : Nat) (L0 L : List (Option Nat)) : Prop where
  len : L.length = n
  old : ∀ (j v : Nat), L0[j]? = some (some v) → L[j]? = some (some v)
  new : ∀ (j v : Nat), L[j]? = some (some v) → L0[j]? = some (some v) ∨ (v = t ∧ L0[j]? = some none ∧ Way d xs n t j)
  own : L[t]? = some (some t)
  all : ∀ j : Nat, L[j]? = some none → ¬ Way d xs n t j
theorem at_has {α : Type} {l : List α} {j : Nat} (h : j < l.length) : ∃ x, l[j]? = some x := ⟨_, List.getElem?_eq_getElem h⟩
theorem Lbl.mark {t : Nat} {L0 L : List (Option Nat)} (h : Lbl d xs n t L0) (ht : L0[t]? = some none) (g : Told d xs n t L0 L) : Lbl d xs n (t + 1) L := by
  refine ⟨g.len, fun j v e => ?_, fun j e m hm w => ?_⟩
  · rcases g.new j v e with z | ⟨rfl, z, w⟩
    · obtain ⟨q1, q2⟩ := h.told j v z
      exact ⟨by omega, q2⟩
    · exact ⟨by omega, w, fun m hm => h.not j z m hm⟩
  · by_cases c : m = t
    · subst c
      exact g.all j e w
    · have hj : j < L0.length := by
        rw [h.len]
        exact w.lt.2
      obtain ⟨x, ex⟩ := at_has hj
      cases x with
      | some v =>
        have := g.old j v ex
        rw [e] at this
        cases this
      | none => exact h.not j ex m (by omega) w
theorem Lbl.skip {t v : Nat} {L : List (Option Nat)} (h : Lbl d xs n t L) (e : L[t]? = some (some v)) : Lbl d xs n (t + 1) L := by
  obtain ⟨q1, q2, q3⟩ := h.told t v e
  refine ⟨h.len, fun j u eu => ?_, fun j ej m hm w => ?_⟩
  · obtain ⟨p1, p2⟩ := h.told j u eu
    exact ⟨by omega, p2⟩
  · by_cases c : m = t
    · subst c
      exact h.not j ej v q1 (q2.trans w)
    · exact h.not j ej m (by omega) w
/-- ahead of t all is told -/
theorem Lbl.ahead {t j : Nat} {L : List (Option Nat)} (h : Lbl d xs n t L) (hj : j < t) (hn : j < n) : ∃ v, L[j]? = some (some v) := by
  obtain ⟨x, ex⟩ := at_has (show j < L.length by rw [h.len]; exact hn)
  cases x with
  | some v => exact ⟨v, ex⟩
  | none => exact absurd (.refl hn) (h.not j ex j hj)
/-- how many of those ahead of t bear their own number -/
def ownTo (L : List (Option Nat)) (t : Nat) : Nat := ((List.range t).filter fun j => L[j]? == some (some j)).length
theorem ownTo_succ (L : List (Option Nat)) (t : Nat) : ownTo L (t + 1) = ownTo L t + if L[t]? = some (some t) then 1 else 0 := by
  unfold ownTo
  rw [List.range_succ, List.filter_append, List.length_append]
  refine congrArg _ ?_
  by_cases h : L[t]? = some (some t)
  · rw [if_pos h, List.filter_cons_of_pos (by rw [h]; exact beq_self_eq_true _)]
    rfl
  · rw [if_neg h, List.filter_cons_of_neg (by rw [beq_iff_eq]; exact h)]
    rfl
theorem ownTo_congr {L M : List (Option Nat)} {t : Nat} (h : ∀ j, j < t → L[j]? = M[j]?) : ownTo L t = ownTo M t := by
  unfold ownTo
  refine congrArg List.length (List.filter_congr fun j hj => ?_)
  rw [h j (List.mem_range.mp hj)]
theorem Lbl.own_skip {t v : Nat} {L : List (Option Nat)} (h : Lbl d xs n t L) (e : L[t]? = some (some v)) : ownTo L (t + 1) = ownTo L t := by
  rw [ownTo_succ, if_neg (by
    rw [e]
    have := (h.told t v e).1
    intro z
    have := Option.some.inj (Option.some.inj z)
    omega), Nat.add_zero]
theorem Lbl.own_mark {t : Nat} {L0 L : List (Option Nat)} (h : Lbl d xs n t L0) (ht : L0[t]? = some none) (g : Told d xs n t L0 L) : ownTo L (t + 1) = ownTo L0 t + 1 := by
  have htn : t < n := by
    have := (List.getElem?_eq_some_iff.mp ht).1
    rw [h.len] at this
    exact this
  rw [ownTo_succ, if_pos g.own]
  refine congrArg (· + 1) (ownTo_congr fun j hj => ?_)
  obtain ⟨v, ev⟩ := h.ahead hj (by omega)
  rw [ev, g.old j v ev]
/-- at the end all is told -/
theorem Lbl.done {L : List (Option Nat)} (h : Lbl d xs n n L) : ∃ gs : List Nat, L = gs.map some ∧ gs.length = n ∧ (∀ j v, gs[j]? = some v → Way d xs n v j ∧ ∀ m, m < v → ¬ Way d xs n m j) ∧ ownTo L n = ((List.range n).filter fun j => gs[j]? == some j).length := by
  have e : L = (L.map fun o => o.getD 0).map some := by
    refine List.ext_getElem? fun j => ?_
    rw [List.getElem?_map, List.getElem?_map]
    by_cases hj : j < n
    · obtain ⟨v, ev⟩ := h.ahead hj hj
      rw [ev]
      rfl
    · rw [List.getElem?_eq_none (by rw [h.len]; omega)]
      rfl
  generalize L.map (fun o => o.getD 0) = gs at e
  subst e
  have hl : gs.length = n := by
    have := h.len
    rw [List.length_map] at this
    exact this
  have at_ : ∀ j : Nat, (gs.map some)[j]? = gs[j]?.map some := fun j => List.getElem?_map
  refine ⟨gs, rfl, hl, fun j v ev => ?_, ?_⟩
  · have := h.told j v (by rw [at_, ev]; rfl)
    exact this.2
  · unfold ownTo
    refine congrArg List.length (List.filter_congr fun j _ => ?_)
    rw [at_]
    cases gs[j]? with
    | none => rfl
    | some v => rfl

/-! ### one call: a walk by a list of letters still to be looked at -/
structure Mk (d : Nat) (xs : List Nat) (n t : Nat) (L0 L : List (Option Nat)) (R : List Nat) : Prop where
  len0 : L0.length = n
  len : L.length = n
  old : ∀ (j v : Nat), L0[j]? = some (some v) → L[j]? = some (some v)
  new : ∀ (j v : Nat), L[j]? = some (some v) → L0[j]? = some (some v) ∨ (v = t ∧ L0[j]? = some none ∧ Way d xs n t j)
  own : L[t]? = some (some t)
  stk : ∀ x ∈ R, Way d xs n t x
  cls : ∀ j : Nat, L0[j]? = some none → L[j]? = some (some t) → j ∈ R ∨ ∀ k, k < n → far (letter xs j) (letter xs k) ≤ d → L[k]? ≠ some none
/-- x is being looked at, the letters ahead of k are done -/
structure Md (d : Nat) (xs : List Nat) (n t : Nat) (L0 L : List (Option Nat)) (R : List Nat) (x k : Nat) : Prop where
  len0 : L0.length = n
  len : L.length = n
  old : ∀ (j v : Nat), L0[j]? = some (some v) → L[j]? = some (some v)
  new : ∀ (j v : Nat), L[j]? = some (some v) → L0[j]? = some (some v) ∨ (v = t ∧ L0[j]? = some none ∧ Way d xs n t j)
  own : L[t]? = some (some t)
  stk : ∀ x ∈ R, Way d xs n t x
  now : Way d xs n t x
  cls : ∀ j : Nat, L0[j]? = some none → L[j]? = some (some t) → j = x ∨ j ∈ R ∨ ∀ k, k < n → far (letter xs j) (letter xs k) ≤ d → L[k]? ≠ some none
  upto : ∀ m, m < k → far (letter xs x) (letter xs m) ≤ d → L[m]? ≠ some none
theorem set_same {α : Type} {l : List α} {j : Nat} {x : α} (h : j < l.length) : (l.set j x)[j]? = some x := by
  rw [List.getElem?_set, if_pos rfl, if_pos h]
theorem set_other {α : Type} {l : List α} {j k : Nat} {x : α} (h : j ≠ k) : (l.set j x)[k]? = l[k]? := by
  rw [List.getElem?_set, if_neg h]
theorem Mk.start {t : Nat} {L0 : List (Option Nat)} (hl : L0.length = n) (ht : L0[t]? = some none) : Mk d xs n t L0 (L0.set t (some t)) [t] := by
  have htn : t < n := by
    have := (List.getElem?_eq_some_iff.mp ht).1
    omega
  have hx : ∀ j, j ≠ t → (L0.set t (some t))[j]? = L0[j]? := fun j h => set_other h.symm
  have hs : (L0.set t (some t))[t]? = some (some t) := set_same (by omega)
  refine ⟨hl, by rw [List.length_set, hl], fun j v e => ?_, fun j v e => ?_, hs, fun x hx => by rw [List.mem_singleton.mp hx]; exact .refl htn, fun j e1 e2 => ?_⟩
  · by_cases c : j = t
    · subst c
      rw [ht] at e
      cases e
    · rw [hx j c]
      exact e
  · by_cases c : j = t
    · subst c
      rw [hs] at e
      cases e
      exact .inr ⟨rfl, ht, .refl htn⟩
    · rw [hx j c] at e
      exact .inl e
  · by_cases c : j = t
    · exact .inl (List.mem_singleton.mpr c)
    · rw [hx j c, e1] at e2
      cases e2
theorem Mk.pop {t x : Nat} {L0 L : List (Option Nat)} {R : List Nat} (h : Mk d xs n t L0 L (R ++ [x])) : Md d xs n t L0 L R x 0 := by
  refine ⟨h.len0, h.len, h.old, h.new, h.own, fun y hy => h.stk y (List.mem_append_left _ hy), h.stk x (List.mem_append_right _ List.mem_cons_self), fun j e1 e2 => ?_, fun m hm => by omega⟩
  rcases h.cls j e1 e2 with z | z
  · rcases List.mem_append.mp z with z | z
    · exact .inr (.inl z)
    · exact .inl (List.mem_singleton.mp z)
  · exact .inr (.inr z)
theorem Md.back {t x : Nat} {L0 L : List (Option Nat)} {R : List Nat} (h : Md d xs n t L0 L R x n) : Mk d xs n t L0 L R := by
  refine ⟨h.len0, h.len, h.old, h.new, h.own, h.stk, fun j e1 e2 => ?_⟩
  rcases h.cls j e1 e2 with rfl | z | z
  · exact .inr h.upto
  · exact .inl z
  · exact .inr z
theorem Md.no {t x k : Nat} {L0 L : List (Option Nat)} {R : List Nat} (h : Md d xs n t L0 L R x k) (c : ¬ (L[k]? = some none ∧ far (letter xs x) (letter xs k) ≤ d)) : Md d xs n t L0 L R x (k + 1) := by
  refine ⟨h.len0, h.len, h.old, h.new, h.own, h.stk, h.now, h.cls, fun m hm hf e => ?_⟩
  by_cases q : m = k
  · subst q
    exact c ⟨e, hf⟩
  · exact h.upto m (by omega) hf e
theorem Md.yes {t x k : Nat} {L0 L : List (Option Nat)} {R : List Nat} (h : Md d xs n t L0 L R x k) (e : L[k]? = some none) (hf : far (letter xs x) (letter xs k) ≤ d) : Md d xs n t L0 (L.set k (some t)) (R ++ [k]) x (k + 1) := by
  have hkl : k < L.length := (List.getElem?_eq_some_iff.mp e).1
  have hkn : k < n := by
    rw [← h.len]
    exact hkl
  have hs : (L.set k (some t))[k]? = some (some t) := set_same hkl
  have hx : ∀ j, j ≠ k → (L.set k (some t))[j]? = L[j]? := fun j q => set_other q.symm
  have wk : Way d xs n t k := h.now.step hkn hf
  have nn : ∀ m, L[m]? ≠ some none → (L.set k (some t))[m]? ≠ some none := fun m q z => by
    by_cases c : m = k
    · subst c
      rw [hs] at z
      cases z
    · rw [hx m c] at z
      exact q z
  refine ⟨h.len0, by rw [List.length_set, h.len], fun j v ev => ?_, fun j v ev => ?_, ?_, fun y hy => ?_, h.now, fun j e1 e2 => ?_, fun m hm hfm => ?_⟩
  · by_cases c : j = k
    · subst c
      rw [h.old j v ev] at e
      cases e
    · rw [hx j c]
      exact h.old j v ev
  · by_cases c : j = k
    · subst c
      rw [hs] at ev
      cases ev
      refine .inr ⟨rfl, ?_, wk⟩
      cases q : L0[j]? with
      | none =>
        have := List.getElem?_eq_none_iff.mp q
        have := h.len0
        omega
      | some o =>
        cases o with
        | none => rfl
        | some v =>
          rw [h.old j v q] at e
          cases e
    · rw [hx j c] at ev
      exact h.new j v ev
  · by_cases c : t = k
    · subst c
      exact hs
    · rw [hx t c]
      exact h.own
  · rcases List.mem_append.mp hy with z | z
    · exact h.stk y z
    · rw [List.mem_singleton.mp z]
      exact wk
  · by_cases c : j = k
    · exact .inr (.inl (List.mem_append_right _ (List.mem_singleton.mpr c)))
    · rw [hx j c] at e2
      rcases h.cls j e1 e2 with z | z | z
      · exact .inl z
      · exact .inr (.inl (List.mem_append_left _ z))
      · exact .inr (.inr fun m hm hfm => nn m (z m hm hfm))
  · by_cases c : m = k
    · subst c
      rw [hs]
      intro z
      cases z
    · exact nn m (h.upto m (by omega) hfm)
theorem Mk.told {t : Nat} {L0 L : List (Option Nat)} (g : Lbl d xs n t L0) (ht : L0[t]? = some none) (h : Mk d xs n t L0 L []) : Told d xs n t L0 L := by
  have key : ∀ j, Way d xs n t j → L[j]? = some (some t) := by
    intro j w
    induction w with
    | refl _ => exact h.own
    | @step j k w hk hf ih =>
      have e0 : L0[j]? = some none := by
        rcases h.new j t ih with z | z
        · have := (g.told j t z).1
          omega
        · exact z.2.1
      rcases h.cls j e0 ih with z | z
      · cases z
      · obtain ⟨o, eo⟩ := at_has (show k < L.length by rw [h.len]; exact hk)
        cases o with
        | none => exact absurd eo (z k hk hf)
        | some v =>
          rcases h.new k v eo with q | q
          · obtain ⟨q1, q2, _⟩ := g.told k v q
            exact absurd (q2.trans (w.step hk hf).symm) (g.not t ht v q1)
          · rw [eo, q.1]
  refine ⟨h.len, h.old, h.new, h.own, fun j e w => ?_⟩
  rw [key j w] at e
  cases e
/-- how many are not told yet -/
def nones (L : List (Option Nat)) : Nat := L.countP fun o => o.isNone
theorem nones_set {L : List (Option Nat)} {k v : Nat} (e : L[k]? = some none) : nones (L.set k (some v)) + 1 = nones L := by
  unfold nones
  induction L generalizing k with
  | nil => cases e
  | cons a r ih =>
    cases k with
    | zero =>
      have q : a = none := Option.some.inj e
      subst q
      rw [List.set_cons_zero, List.countP_cons, List.countP_cons]
      rfl
    | succ k =>
      have := ih (k := k) e
      rw [List.set_cons_succ, List.countP_cons, List.countP_cons]
      omega
end
end Lt
namespace Lt
open PySem PySem.Spec PyProof.Rows L2

/-! ### numbers -/
/-- x & ~c -/
theorem and_not (x c : Nat) : Builtin.bitAnd (x : Int) (Builtin.bitNot (c : Int)) = ((x - (x &&& c) : Nat) : Int) := by
  have h1 : decide ((0 : Int) ≤ (x : Int)) = true := decide_eq_true (Int.natCast_nonneg x)
  have h2 : decide ((0 : Int) ≤ Builtin.bitNot (c : Int)) = false := decide_eq_false (by
    unfold Builtin.bitNot
    omega)
  have h3 : Builtin.bitNot (Builtin.bitNot (c : Int)) = (c : Int) := by
    unfold Builtin.bitNot
    omega
  unfold Builtin.bitAnd
  rw [h1, h2]
  show (x : Int) - ((((x : Int)).toNat &&& (Builtin.bitNot (Builtin.bitNot (c : Int))).toNat : Nat) : Int) = _
  rw [h3, Int.toNat_natCast, Int.toNat_natCast]
  have : x &&& c ≤ x := Nat.and_le_left
  omega
/-- (r << d) & 65535 -/
theorem shl_int (r : Nat) (d : Int) (h : 0 ≤ d) : Builtin.bitAnd ((r : Int) * 2 ^ d.toNat) 65535 = ((shiftBy d r : Nat) : Int) := by
  unfold shiftBy
  rw [if_pos h]
  have e : (r : Int) * 2 ^ d.toNat = ((r * 2 ^ d.toNat : Nat) : Int) := by
    rw [Int.natCast_mul, Int.natCast_pow]
    rfl
  rw [e, show (65535 : Int) = 2 ^ 16 - 1 from rfl, Bits.bitAnd_mask _ (Int.natCast_nonneg _), Int.natCast_emod]
  rfl
/-- r >> -d -/
theorem shr_int (r : Nat) (d : Int) (h : ¬ 0 ≤ d) : (r : Int) / 2 ^ (-d).toNat = ((shiftBy d r : Nat) : Int) := by
  unfold shiftBy
  rw [if_neg h, Int.natCast_ediv, Int.natCast_pow]
  rfl

/-! ### slices -/
theorem cut_first {xs : List V} {k : Nat} : cutV xs none (some (k : Int)) = xs.take k := by
  unfold cutV
  rw [HT.sIx_nat]
  show (xs.drop 0).take (min k xs.length - 0) = _
  rw [List.drop_zero, Nat.sub_zero]
  rcases Nat.le_total k xs.length with h | h
  · rw [Nat.min_eq_left h]
  · rw [Nat.min_eq_right h, List.take_of_length_le h, List.take_length]

theorem cut_last {xs : List V} {k d : Nat} (h : xs.length = k + d) (hk : 0 < k) : cutV xs (some (-(k : Int))) none = xs.drop d := by
  unfold cutV
  have e : HT.sIx xs.length 0 (some (-(k : Int))) = d := by
    show (if -(k : Int) < 0 then (-(k : Int) + (xs.length : Int)).toNat else min (-(k : Int)).toNat xs.length) = d
    rw [if_pos (by omega)]
    omega
  rw [e, HT.sIx_none, List.take_of_length_le (by rw [List.length_drop]; exact Nat.le_refl _)]

/-! ### min(xs, default=d), ints -/
section
variable {prog : Program} {w : World} {A : Around} {E : Value → Shared → Prop} {s : Shared}
theorem minD_raw {l : Addr} {its : List Value} {ns : List Int} {d : Value} {Q : Value → Shared → Prop} (hh : A.handled = none) (hl : s.heap.IsList l its.toArray) (hi : IntsAre its ns)
    (h0 : ns = [] → ∀ h' tk, (∀ b o, s.heap.get? b = some o → h'.get? b = some o) → Q d { s with heap := h', toks := tk })
    (h : ∀ h' tk M t', (∀ b o, s.heap.get? b = some o → h'.get? b = some o) → M ∈ ns → (∀ a, a ∈ ns → M ≤ a) → Q (.int M t') { s with heap := h', toks := tk }) :
    wpAny (model prog w) A (call (.builtin "min") [.ref l] [(Str.ofString "default", d)]) Q E s := by
  obtain ⟨xs, e⟩ := hi.allInts.items
  have hn : numsOf (intItems xs).toList = ns := by
    rw [← e]
    exact hi.numsOf
  rw [nums_intItems] at hn
  subst hn
  rw [e] at hl
  refine call_min_walkD (PySem.W.iter_listW (A := A.in1) hh hl fun s₂ e2 W st hfp hw hk => ?_)
  refine ⟨_, _, _, _, _, _, _, s.heap, (fun i j => decide (numAt xs i < numAt xs j)), rfl, W, st, hfp, hw, hk, fun hz s' m => ?_, fun hp => ⟨fun i j vi vj s3 Q3 E3 _ p1 p2 q3 => CmpOf.ints_lt (numAt xs) (fun _ _ => intItems_at) i j vi vj s3 Q3 E3 p1 p2 q3, fun v s' hP m => ?_⟩⟩
  · obtain ⟨h', tk, rfl, hk'⟩ := PySem.W.moved_old e2 rfl m
    refine h0 ?_ h' tk hk'
    have : xs.size = 0 := by simpa [intItems] using hz
    have : xs = #[] := Array.eq_empty_of_size_eq_zero this
    subst this
    rfl
  · obtain ⟨h', tk, rfl, hk'⟩ := PySem.W.moved_old e2 rfl m
    have hsz : 0 < xs.size := by simpa [intItems] using hp
    have hP' : (intItems xs)[argBest (fun i j => decide (numAt xs i < numAt xs j)) (xs.size - 1)]? = some v := by simpa [intItems] using hP
    obtain ⟨t, rfl⟩ := intItems_at hP'
    obtain ⟨h1, h2⟩ := argBest_lt (numAt xs) (xs.size - 1)
    refine h h' tk _ t hk' ?_ fun a ha => ?_
    · rw [numAt_eq]
      exact PySem.getD_mem (by rw [List.length_map, Array.length_toList]; omega)
    · obtain ⟨j, hj, rfl⟩ := mem_getD ha
      rw [List.length_map, Array.length_toList] at hj
      rw [← numAt_eq]
      exact h2 j (by omega)
end
def rMinD (K : PySem.W.Frag) : List V → List V → Hp → VK → Prop := fun vs ds H Q => ∃ (a : Addr) (ns : List Int) (d : V), vs = [V.ref a] ∧ ds = [d] ∧ SqL K H a (ns.map V.int) ∧ (ns = [] → Q d H) ∧ ∀ m, m ∈ ns → (∀ y, y ∈ ns → m ≤ y) → Q (.int m) H
theorem cr_minD {X : Cx} (hc : X.calm = true) : CallRK X (.builtin "min") [Str.ofString "default"] (rMinD X.K) := by
  intro pn st sl Hp1 vs ds us ws Qv Inv1 r1 r2 hyp
  obtain ⟨a, ns, d, rfl, rfl, hs, h0, q⟩ := hyp
  obtain ⟨its, rv, hl, _⟩ := Inv1.list hs
  rw [Vals.ref1 r1]
  obtain ⟨dv, rfl, rd⟩ := vals1 r2
  exact minD_raw (Inv1.ok.hd hc) hl.isList rv.ints (fun e h' tk hk => ⟨d, Hp1, Inv1.kept hk, rd, h0 e⟩) fun h' tk m t' hk h1 h2 => ⟨.int _, Hp1, Inv1.kept hk, ⟨_, rfl⟩, q m h1 h2⟩

/-- len(xs) of a list or a tuple, its wish by a name of its own (for a comprehension) -/
def rLenS (K : PySem.W.Frag) : List V → Hp → VK → Prop := fun vs H Q => ∃ a zs, vs = [V.ref a] ∧ (SqL K H a zs ∨ SqT K H a zs) ∧ Q (.int zs.length) H
theorem call_lenS {X : Cx} : CallR X (.builtin "len") (rLenS X.K) := call_len_seq

/-! ### lists of lists on the heap -/
def RowsAt (H : Hp) (p : Addr) (n : Nat) (f : Nat → List V) : Prop :=
  ∃ rs : List Addr, rs.length = n ∧ H p = some (.lst (rs.map V.ref)) ∧ ∀ (j : Nat) (r : Addr), rs[j]? = some r → H r = some (.lst (f j)) ∧ r ≠ p
theorem RowsAt.same {H H' : Hp} {p : Addr} {n : Nat} {f : Nat → List V} (h : RowsAt H p n f) (k : Same H H') : RowsAt H' p n f := by
  obtain ⟨rs, h1, h2, h3⟩ := h
  exact ⟨rs, h1, k _ _ h2, fun j r e => ⟨k _ _ (h3 j r e).1, (h3 j r e).2⟩⟩
theorem RowsAt.nil {H : Hp} {p : Addr} {f : Nat → List V} : RowsAt (upd H p (.lst [])) p 0 f := ⟨[], rfl, upd_same, fun j r e => by cases e⟩
/-- one more row, at a new place -/
theorem RowsAt.snoc {H : Hp} {p D : Addr} {rs : List Addr} {n : Nat} {f : Nat → List V} (h1 : rs.length = n) (h2 : H p = some (.lst (rs.map V.ref))) (h3 : ∀ (j : Nat) (r : Addr), rs[j]? = some r → H r = some (.lst (f j)) ∧ r ≠ p)
    (hD : H D = some (.lst (f n))) (ne : D ≠ p) : RowsAt (upd H p (.lst (rs.map V.ref ++ [V.ref D]))) p (n + 1) f := by
  refine ⟨rs ++ [D], ?_, ?_, fun j r hj => ?_⟩
  · rw [List.length_append, h1]
    rfl
  · rw [upd_same, List.map_append]
    rfl
  · by_cases hji : j < n
    · rw [List.getElem?_append_left (by omega)] at hj
      obtain ⟨e1, e2⟩ := h3 j r hj
      exact ⟨(upd_ne e2).trans e1, e2⟩
    · have hj2 : j = n := by
        have : j < (rs ++ [D]).length := (List.getElem?_eq_some_iff.mp hj).1
        rw [List.length_append, h1] at this
        have : j < n + 1 := this
        omega
      subst hj2
      rw [List.getElem?_append_right (by omega), h1, Nat.sub_self] at hj
      have e : D = r := Option.some.inj hj
      subst e
      exact ⟨(upd_ne ne).trans hD, ne⟩
/-- rows behind rows -/
theorem RowsAt.join {H : Hp} {p : Addr} {rs ds : List Addr} {n k m : Nat} {f g : Nat → List V} (h1 : rs.length = n) (h3 : ∀ (j : Nat) (r : Addr), rs[j]? = some r → H r = some (.lst (f j)) ∧ r ≠ p)
    (d1 : ds.length = k) (d3 : ∀ (j : Nat) (r : Addr), ds[j]? = some r → H r = some (.lst (g j)) ∧ r ≠ p) (hg : ∀ j, j < k → g j = f (n + j)) (hm : m = n + k) : RowsAt (upd H p (.lst (rs.map V.ref ++ ds.map V.ref))) p m f := by
  refine ⟨rs ++ ds, by rw [List.length_append, h1, d1, hm], by rw [upd_same, List.map_append], fun j r hj => ?_⟩
  by_cases hji : j < n
  · rw [List.getElem?_append_left (by omega)] at hj
    obtain ⟨e1, e2⟩ := h3 j r hj
    exact ⟨(upd_ne e2).trans e1, e2⟩
  · rw [List.getElem?_append_right (by omega), h1] at hj
    have hk : j - n < k := by
      have := (List.getElem?_eq_some_iff.mp hj).1
      omega
    obtain ⟨e1, e2⟩ := d3 (j - n) r hj
    refine ⟨(upd_ne e2).trans (e1.trans ?_), e2⟩
    rw [hg _ hk, show n + (j - n) = j by omega]
/-- from the places of a list's greatest that is least, its first place -/
theorem first_int {l : List Nat} {m : Int} (h1 : m ∈ iL l) (h2 : ∀ y, y ∈ iL l → m ≤ y) : ∃ k v : Nat, m = v ∧ First l k v := by
  obtain ⟨v, hv, rfl⟩ := List.mem_map.mp h1
  have e : Sh60.least l = v := least_eq hv fun x hx => by
    have := h2 (x : Int) (List.mem_map.mpr ⟨x, hx, rfl⟩)
    omega
  refine ⟨Sh60.firstLeast l, v, rfl, ?_⟩
  rw [← e]
  exact first_of (List.ne_nil_of_mem hv)
theorem iL_mem {l : List Nat} {m : Int} (h : m ∈ iL l) : ∃ v : Nat, m = v ∧ v ∈ l := by
  obtain ⟨v, hv, rfl⟩ := List.mem_map.mp h
  exact ⟨v, rfl, hv⟩
/-- what list.index asks, where the first of the least is sought -/
theorem ix_first {l : List Nat} {k v : Nat} (F : First l k v) : (l.map nV).all flatV = true ∧ (l.map nV)[k]? = some (nV v) ∧ eqV (nV v) (nV v) = true ∧ ∀ (m : Nat) (z : V), m < k → (l.map nV)[m]? = some z → eqV z (nV v) = false := by
  refine ⟨List.all_eq_true.mpr fun x hx => ?_, ?_, beq_self_eq_true (α := Int) (v : Int), fun m z hm e => ?_⟩
  · obtain ⟨n, _, rfl⟩ := List.mem_map.mp hx
    rfl
  · rw [List.getElem?_map, F.here]
    rfl
  · obtain ⟨n, hn, rfl⟩ := map_at e
    have h := F.ahead m n hm hn
    show ((n : Int) == (v : Int)) = false
    exact beq_false_of_ne (by omega)
end Lt
namespace Lt
open PySem PySem.Spec PyProof.Rows L2

/-- what list.index asks, where the first of the greatest is sought -/
theorem ix_top {l : List Int} {k : Nat} {v : Int} (T : Top l k v) : (l.map V.int).all flatV = true ∧ (l.map V.int)[k]? = some (V.int v) ∧ eqV (V.int v) (V.int v) = true ∧ ∀ (m : Nat) (z : V), m < k → (l.map V.int)[m]? = some z → eqV z (V.int v) = false := by
  refine ⟨List.all_eq_true.mpr fun x hx => ?_, ?_, beq_self_eq_true (α := Int) v, fun m z hm e => ?_⟩
  · obtain ⟨n, _, rfl⟩ := List.mem_map.mp hx
    rfl
  · rw [List.getElem?_map, T.here]
    rfl
  · obtain ⟨n, hn, rfl⟩ := map_at e
    have h := T.ahead m n hm hn
    show (n == v) = false
    exact beq_false_of_ne (by omega)

/-! ### pairs on the heap, sorted -/
/-- the two numbers of the pair that v is -/
def pairOf (H : Hp) (v : V) : Int × Int := match v with
  | .ref t => match H t with
    | some (.tup [.int a, .int b]) => (a, b)
    | _ => (0, 0)
  | _ => (0, 0)
theorem pairOf_at {H : Hp} {t : Addr} {a b : Int} (h : H t = some (.tup [.int a, .int b])) : pairOf H (.ref t) = (a, b) := by
  show (match H t with
    | some (.tup [.int a, .int b]) => (a, b)
    | _ => (0, 0)) = (a, b)
  rw [h]
def natPair (H : Hp) (v : V) : Nat × Nat := ((pairOf H v).1.toNat, (pairOf H v).2.toNat)
/-- new pairs, told one by one -/
def TupsAt (H : Hp) (ts : List Addr) (l : List (Nat × Nat)) : Prop := ts.length = l.length ∧ ∀ (m : Nat) (t : Addr), ts[m]? = some t → ∃ p, l[m]? = some p ∧ H t = some (.tup [nV p.1, nV p.2])
theorem TupsAt.same {H H' : Hp} {ts : List Addr} {l : List (Nat × Nat)} (h : TupsAt H ts l) (s : Same H H') : TupsAt H' ts l := ⟨h.1, fun m t e => by
  obtain ⟨p, e1, e2⟩ := h.2 m t e
  exact ⟨p, e1, s _ _ e2⟩⟩
theorem TupsAt.snoc {H : Hp} {ts : List Addr} {l : List (Nat × Nat)} {t : Addr} {p : Nat × Nat} (h : TupsAt H ts l) (e : H t = some (.tup [nV p.1, nV p.2])) : TupsAt H (ts ++ [t]) (l ++ [p]) := by
  have hl := h.1
  refine ⟨by rw [List.length_append, List.length_append, hl]; rfl, fun m u em => ?_⟩
  by_cases c : m < ts.length
  · rw [List.getElem?_append_left c] at em
    obtain ⟨q, e1, e2⟩ := h.2 m u em
    exact ⟨q, by rw [List.getElem?_append_left (by omega)]; exact e1, e2⟩
  · have c2 : m < (ts ++ [t]).length := (List.getElem?_eq_some_iff.mp em).1
    rw [List.length_append] at c2
    have c3 : m < ts.length + 1 := c2
    have c4 : m = ts.length := by omega
    subst c4
    rw [List.getElem?_append_right (Nat.le_refl _), Nat.sub_self] at em
    have e3 : t = u := Option.some.inj em
    subst e3
    refine ⟨p, ?_, e⟩
    rw [List.getElem?_append_right (by omega), hl, Nat.sub_self]
    rfl
theorem TupsAt.pairs {H : Hp} {ts : List Addr} {l : List (Nat × Nat)} (h : TupsAt H ts l) : (ts.map V.ref).map (natPair H) = l := by
  refine List.ext_getElem? fun m => ?_
  rw [List.getElem?_map, List.getElem?_map]
  by_cases c : m < ts.length
  · have e : ts[m]? = some ts[m] := List.getElem?_eq_getElem c
    obtain ⟨p, e1, e2⟩ := h.2 m _ e
    rw [e, e1]
    show some (natPair H (V.ref ts[m])) = some p
    unfold natPair
    rw [pairOf_at e2]
    rfl
  · rw [List.getElem?_eq_none (by omega), List.getElem?_eq_none (by have := h.1; omega)]
    rfl
/-- each one of them is a pair of numbers -/
theorem TupsAt.each {H : Hp} {ts : List Addr} {l : List (Nat × Nat)} (h : TupsAt H ts l) {x : V} (hx : x ∈ ts.map V.ref) : ∃ (t : Addr) (p : Nat × Nat), x = V.ref t ∧ p ∈ l ∧ H t = some (.tup [nV p.1, nV p.2]) ∧ pairOf H x = ((p.1 : Int), (p.2 : Int)) ∧ natPair H x = p := by
  obtain ⟨t, ht, rfl⟩ := List.mem_map.mp hx
  obtain ⟨m, em⟩ := List.mem_iff_getElem?.mp ht
  obtain ⟨p, e1, e2⟩ := h.2 m t em
  have e3 := pairOf_at e2
  exact ⟨t, p, rfl, List.mem_of_getElem? e1, e2, e3, by unfold natPair; rw [e3]; rfl⟩
theorem TupsAt.sorted {H : Hp} {ts : List Addr} {l : List (Nat × Nat)} {ys : List V} (h : TupsAt H ts l) (hs : SrtO.Srtd (ltP (pairOf H)) ys) (hb : SrtO.Stb (ltP (pairOf H)) ys (ts.map V.ref)) : (ys.map (natPair H)).Perm l ∧ (ys.map (natPair H)).Pairwise fun p q => leP p q = true := by
  refine ⟨?_, ?_⟩
  · have := hb.perm.map (natPair H)
    rw [h.pairs] at this
    first | exact this | exact this.symm
  · rw [List.pairwise_map]
    have hm : ∀ x ∈ ys, x ∈ ts.map V.ref := fun x hx => by
      first | exact hb.perm.mem_iff.mp hx | exact hb.perm.mem_iff.mpr hx
    refine List.Pairwise.imp_of_mem (fun {a b} ha hb' q => ?_) hs
    obtain ⟨t, p, rfl, _, _, e1, e2⟩ := h.each (hm a ha)
    obtain ⟨u, r, rfl, _, _, e3, e4⟩ := h.each (hm b hb')
    rw [e2, e4, leP_iff]
    have z := SrtO.lexB_no.mp q
    rw [e1, e3] at z
    simp only at z
    omega

/-! ### labels on the heap -/
/-- a label, or none yet -/
def oV : Option Nat → V
  | none => .non
  | some v => nV v
theorem set_oV (L : List (Option Nat)) (k v : Nat) : (L.map oV).set k (nV v) = (L.set k (some v)).map oV := by
  rw [List.map_set]
  rfl
theorem ixN_nat {n j : Nat} (h : j < n) : ixN n (j : Int) = some j := by
  unfold ixN
  rw [if_pos (by omega), if_pos (by omega), Int.toNat_natCast]
/-- a store to what was not there at the start -/
theorem Keep.fresh {B R : Addr} {H H' : Hp} {o : HO} (s : Keep B H H') (h : H R = none) : Keep B H (upd H' R o) := fun b x hb e => (upd_ne (ne_of_none e h)).trans (s b x hb e)
theorem snoc_of {α : Type} {l : List α} (h : 0 < l.length) : ∃ r x, l = r ++ [x] := by
  have ne : l ≠ [] := List.ne_nil_of_length_pos h
  exact ⟨l.dropLast, l.getLast ne, (List.dropLast_concat_getLast ne).symm⟩
end Lt
namespace Lt
open PySem PySem.Spec PyProof.Rows L2
open PySem.W (Codec)
def top (i : Nat) : Stmt := PySem.Challenge.pw_likelettersdesk_s09_lt_groups.main.body.getD i (.Pass ⟨0, 0, 0, 0⟩)
abbrev sSize : Stmt := top 1
abbrev sOnes : Stmt := top 2
abbrev sPart : Stmt := top 3
abbrev sLet : Stmt := top 4
abbrev sFar : Stmt := top 5
abbrev sMark : Stmt := top 6
abbrev sGroups : Stmt := top 7
section
variable {P : Program} {w : World} {K : PySem.W.Frag} {mg : Str → Option Value} {base : Heap}
theorem scZ : FnScope ["number"] ["number"] (defScope sSize) := ⟨rfl, rfl, rfl, by decide +kernel, rfl, by decide +kernel, by decide +kernel⟩
/-! ### is_size -/
def sizeOk (z : Int) : Bool := decide (1 ≤ z) && decide (z ≤ 256)
def spSize : Sp := fun vs H Q _ => ∃ z : Int, vs = [.int z] ∧ Q (.bl (sizeOk z)) H
theorem ok_size {f : Addr} {fd : FuncData} (F : Fun K "is_size" "is_size" sSize f fd) : FnOk P w K mg base CX0 1 f fd ["number"] spSize := by
  refine F.ok scZ (fun vs H Q E h => ?_) (fun cdv A outer s H vs Q E hr h => ?_)
  · obtain ⟨z, rfl, _⟩ := h
    rfl
  · obtain ⟨z, rfl, q⟩ := h
    refine ⟨_, pss_one (ps_ret (pe_chain op_le op_le pe_int (pv 0) pe_int)), ?_⟩
    refine ⟨_, rfl, _, _, rfl, rfl, _, rfl, ?_⟩
    unfold sizeOk at q
    by_cases e : (1 : Int) ≤ z
    · rw [decide_eq_true e] at q ⊢
      refine iteT ⟨_, _, rfl, rfl, ?_⟩
      rw [Bool.true_and] at q
      exact q
    · rw [decide_eq_false e] at q ⊢
      exact iteF q
theorem scO : FnScope ["number", "ones"] ["number"] (defScope sOnes) := ⟨rfl, rfl, rfl, by decide +kernel, rfl, by decide +kernel, by decide +kernel⟩
/-! ### count_ones -/
def spOnes : Sp := fun vs H Q _ => ∃ n : Nat, vs = [nV n] ∧ Q (nV (pop n)) H
theorem ok_ones {f : Addr} {fd : FuncData} (F : Fun K "count_ones" "count_ones" sOnes f fd) : FnOk P w K mg base CX0 1 f fd ["number"] spOnes := by
  refine F.ok scO (fun vs H Q E h => ?_) (fun cdv A outer s H vs Q E hr h => ?_)
  · obtain ⟨n, rfl, _⟩ := h
    rfl
  · obtain ⟨n, rfl, q⟩ := h
    refine ⟨_, pss_cons (ps_set (i := 1) scO.nd rfl (.inl rfl) pe_int)
      (pss_cons (ps_while PassesOwn.never (pt_cmpR op_gt (pv 0) pe_int (nomark _))
        (pss_cons (ps_set (i := 0) scO.nd rfl (.inl rfl) (pe_op op_and (pv 0) (pe_op op_sub (pv 0) pe_int)))
          (pss_one (ps_aug (i := 1) scO.nd rfl (.inl rfl) pe_int ip_add))))
      (pss_one (ps_ret (pv 1)))), ?_⟩
    refine ⟨fun m σ H' => ∃ c : Nat, σ = [some (nV m), some (nV c)] ∧ c + pop m = pop n ∧ H' = H, ⟨n, 0, rfl, by omega, rfl⟩, ?_⟩
    rintro m σ _ ⟨c, rfl, ec, rfl⟩
    refine ⟨_, rfl, _, _, rfl, rfl, _, rfl, ite2 (fun e => ?_) (fun e => ?_)⟩
    · have hm : 0 < m := by
        have := of_decide_eq_true e
        omega
      refine ⟨fun σ' H' => ∃ c' : Nat, σ' = [some (nV (m &&& (m - 1))), some (nV c')] ∧ c' + pop (m &&& (m - 1)) = pop n ∧ H' = _, fun σ' H' hN => ⟨_, clear_lt hm, hN⟩, ?_⟩
      refine ⟨_, rfl, _, rfl, _, _, rfl, rfl, _, _, rfl, rfl, ?_⟩
      refine ⟨_, rfl, _, _, rfl, rfl, ?_⟩
      refine ⟨c + 1, ?_, ?_, rfl⟩
      · show [some (V.int (Builtin.bitAnd (m : Int) ((m : Int) - 1))), some (V.int ((c : Int) + 1))] = _
        rw [clear_int m hm]
        rfl
      · have := pop_clear m hm
        omega
    · have hm : m = 0 := by
        have := of_decide_eq_false (Bool.not_eq_true _ ▸ e)
        omega
      subst hm
      rw [pop_zero, Nat.add_zero] at ec
      subst ec
      exact ⟨_, rfl, q⟩
theorem scPa : FnScope ["numbers", "length", "start"] ["numbers", "length"] (defScope sPart) := ⟨rfl, rfl, rfl, by decide +kernel, rfl, by decide +kernel, by decide +kernel⟩
/-! ### parts_of -/
def PartsAt (H : Hp) (p : Addr) (xs : List Nat) (c n : Nat) : Prop :=
  ∃ rs : List Addr, rs.length = n ∧ H p = some (.lst (rs.map V.ref)) ∧ ∀ (k : Nat) (r : Addr), rs[k]? = some r → H r = some (.lst (((xs.drop (c * k)).take c).map nV)) ∧ r ≠ p
def spPart (K : PySem.W.Frag) : Sp := fun vs H Q _ => ∃ (a : Addr) (xs : List Nat) (c n : Nat), vs = [.ref a, nV c] ∧ SqL K H a (xs.map nV) ∧ xs.length = c * n ∧ 0 < c ∧ c ≤ 64 ∧ n ≤ 257 ∧
  ∀ H' p, Same H H' → H p = none → PartsAt H' p xs c n → Q (.ref p) H'
theorem ok_part {f : Addr} {fd : FuncData} (F : Fun K "parts_of" "parts_of" sPart f fd) (mr : mg "range" = none) (ml : mg "len" = none) : FnOk P w K mg base CX0 1 f fd ["numbers", "length"] (spPart K) := by
  refine F.ok scPa (fun vs H Q E h => ?_) (fun cdv A outer s H vs Q E hr h => ?_)
  · obtain ⟨a, xs, c, n, rfl, _⟩ := h
    rfl
  · obtain ⟨a, xs, c, n, rfl, hx, hl, hc, hc2, hn, q⟩ := h
    refine ⟨_, pss_one (ps_ret (pe_lc (own := [("start", 2)]) (g := gName 2) (tt := tYes) rfl scPa.nd
      (pi_range3 (by rfl) mr (pa_cons pe_int (pa_cons (pe_callB call_len_seq (by rfl) ml PySem.boot_len (pa_cons (pv 0) pa_nil)) (pa_cons (pv 1) pa_nil))))
      (blkOk_by (N := ["numbers", "length", "start"]) (sc := defScope sPart) (by decide +kernel))
      (fun _ _ _ _ _ => pg_name (i := 2) scPa.nd rfl (.inl rfl) (.inr rfl)) (fun _ _ _ _ _ => pts_nil)
      (fun _ _ _ _ _ => pe_slice (r := rSlL K) sl_list (pv 0) (po_some (pv 2)) (po_some (pe_op op_add (pv 2) (pv 1)))))), ?_⟩
    refine ⟨_, rfl, a, _, rfl, .inl hx, _, rfl, _, _, _, n, rfl, by rw [List.length_map, hl]; exact rgN c n hc hc2 (by omega), fun D hD => ?_⟩
    refine lc_it walk_rangeC (fun i H' => Same H H' ∧ PartsAt H' D xs c i) ⟨same_upd hD, [], rfl, upd_same, fun k r hk => by cases hk⟩ (fun _ _ _ _ => trivial) ?_ ?_
    · rintro i x H1 _ hi ⟨sm, rs, hrs, eD, er⟩ ⟨rfl, rfl⟩
      have hz : (xs.map nV).length = c * n := by rw [List.length_map, hl]
      refine ⟨rfl, yes ?_⟩
      refine ⟨_, rfl, _, rfl, _, rfl, _, rfl, _, rfl, _, _, rfl, rfl, _, rfl, a, _, rfl, sm.seq hx, fun p hp => ?_⟩
      have hpD : D ≠ p := ne_of_none eD hp
      refine ⟨_, by rw [upd_ne hpD]; exact eD, ?_, fun b o e => ?_, rs ++ [p], ?_, ?_, fun k r hk => ?_⟩
      · rw [List.length_map, hrs]
        exact smallL (by omega)
      · rw [upd_ne (ne_of_none e hD), upd_ne (ne_of_none (sm b o e) hp)]
        exact sm b o e
      · rw [List.length_append, hrs]
        rfl
      · rw [upd_same, List.map_append]
        rfl
      · by_cases hki : k < i
        · rw [List.getElem?_append_left (by omega)] at hk
          obtain ⟨e1, e2⟩ := er k r hk
          refine ⟨?_, e2⟩
          rw [upd_ne e2, upd_ne (ne_of_none e1 hp)]
          exact e1
        · have hk2 : k = i := by
            have : k < (rs ++ [p]).length := (List.getElem?_eq_some_iff.mp hk).1
            rw [List.length_append, hrs] at this
            have : k < i + 1 := this
            omega
          subst hk2
          rw [List.getElem?_append_right (by omega), hrs, Nat.sub_self] at hk
          have e : p = r := Option.some.inj hk
          subst e
          refine ⟨?_, hpD.symm⟩
          rw [upd_ne hpD.symm, upd_same]
          have em : (k : Int) * (c : Int) = ((c * k : Nat) : Int) := by rw [Int.natCast_mul, Int.mul_comm]
          have st : c * k + c ≤ c * n := by
            have := Nat.mul_le_mul_left c (show k + 1 ≤ n from hi)
            rw [Nat.mul_succ] at this
            exact this
          rw [em]
          generalize c * k = z at *
          have q := cut_nat (xs := xs.map nV) (x := 0 + (z : Int)) (y := 0 + (z : Int) + c) (a := z) (b := z + c) (by omega) (by omega) (by omega) (by omega)
          refine congrArg (fun l => some (HO.lst l)) (q.trans ?_)
          rw [List.map_take, List.map_drop, Nat.add_sub_cancel_left]
    · rintro H1 ⟨sm, h⟩
      exact q H1 D sm hD h
theorem scL : FnScope ["font"] ["font"] (defScope sLet) := ⟨rfl, rfl, rfl, by decide +kernel, rfl, by decide +kernel, by decide +kernel⟩
/-! ### letters_of -/
def LettersAt (H : Hp) (p : Addr) (xs : List Nat) (n : Nat) : Prop :=
  ∃ rs : List Addr, rs.length = n ∧ H p = some (.lst (rs.map V.ref)) ∧ ∀ (k : Nat) (r : Addr), rs[k]? = some r → H r = some (.lst ((letter xs k).map nV)) ∧ r ≠ p
def spLet (K : PySem.W.Frag) : Sp := fun vs H Q _ => ∃ (a : Addr) (xs : List Nat) (n : Nat), vs = [.ref a] ∧ SqL K H a (xs.map nV) ∧ xs.length = 16 * n ∧ n ≤ 257 ∧
  ∀ H' p, Same H H' → H p = none → LettersAt H' p xs n → Q (.ref p) H'
theorem ok_let {f fp : Addr} {fd fdp : FuncData} (F : Fun K "letters_of" "letters_of" sLet f fd) (FP : Fun K "parts_of" "parts_of" sPart fp fdp) (bp : Binds K fdp ["numbers", "length"] []) (gp : mg "parts_of" = some (.ref fp)) (mr : mg "range" = none) (ml : mg "len" = none) : FnOk P w K mg base CX0 2 f fd ["font"] (spLet K) := by
  have GP : FnOk P w K mg base CX0 1 fp fdp ["numbers", "length"] (spPart K) := ok_part FP mr ml
  refine F.ok scL (fun vs H Q E h => ?_) (fun cdv A outer s H vs Q E hr h => ?_)
  · obtain ⟨a, xs, n, rfl, _⟩ := h
    rfl
  · obtain ⟨a, xs, n, rfl, hx, hl, hn, q⟩ := h
    have hr1 : Room 1 _ := hr
    refine ⟨_, pss_one (ps_ret (pe_call GP hr1 (by rfl) gp FP.kp bp .nil pass0 (pa_cons (pv 0) (pa_cons pe_int pa_nil)))), ?_⟩
    exact ⟨_, rfl, a, xs, 16, n, rfl, hx, hl, by decide, by decide, hn, fun H' p sm np hp => q H' p sm np hp⟩
theorem scF : FnScope ["a", "b", "row", "other"] ["a", "b"] (defScope sFar) := ⟨rfl, rfl, rfl, by decide +kernel, rfl, by decide +kernel, by decide +kernel⟩
/-! ### how_far -/
def spFar (K : PySem.W.Frag) : Sp := fun vs H Q _ => ∃ (a b : Addr) (xs ys : List Nat), vs = [.ref a, .ref b] ∧ SqL K H a (xs.map nV) ∧ SqL K H b (ys.map nV) ∧ xs.length ≤ 16 ∧
  ∀ H', Same H H' → Q (nV (far xs ys)) H'
theorem zip_at {α β : Type} : ∀ {xs : List α} {ys : List β} {i : Nat} {x : α} {y : β}, xs[i]? = some x → ys[i]? = some y → (xs.zip ys)[i]? = some (x, y) := by
  intro xs ys i x y h1 h2
  rw [List.getElem?_zip_eq_some]
  exact ⟨h1, h2⟩
theorem ok_far {f f1 : Addr} {fd fd1 : FuncData} (F : Fun K "how_far" "how_far" sFar f fd) (F1 : Fun K "count_ones" "count_ones" sOnes f1 fd1) (b1 : Binds K fd1 ["number"] []) (g1 : mg "count_ones" = some (.ref f1))
    (mz : mg "zip" = none) (ms : mg "sum" = none) : FnOk P w K mg base CX0 2 f fd ["a", "b"] (spFar K) := by
  have G1 : FnOk P w K mg base CX0 1 f1 fd1 ["number"] spOnes := ok_ones F1
  refine F.ok scF (fun vs H Q E h => ?_) (fun cdv A outer s H vs Q E hr h => ?_)
  · obtain ⟨a, b, xs, ys, rfl, _⟩ := h
    rfl
  · obtain ⟨a, b, xs, ys, rfl, hx, hy, hl, q⟩ := h
    have hr1 : Room 1 _ := hr
    refine ⟨_, pss_one (ps_ret (pe_callB (cr_sum rfl) (by rfl) ms (by decide +kernel) (pa_cons
      (pe_lc (own := [("row", 2), ("other", 3)]) (g := gTup K 2 (gCons (gName 2) (gCons (gName 3) gNil))) (tt := tYes) rfl scF.nd (pi_zip (by rfl) mz (pa_cons (pv 0) (pa_cons (pv 1) pa_nil))) (blkOk_by (N := ["a", "b", "row", "other"]) (sc := defScope sFar) (by decide +kernel))
        (fun _ _ _ _ _ => pg_tup rfl (pgs_cons (pg_name (i := 2) scF.nd rfl (.inl rfl) (.inr rfl)) (pgs_cons (pg_name (i := 3) scF.nd rfl (.inl rfl) (.inr rfl)) pgs_nil)))
        (fun _ _ _ _ _ => pts_nil)
        (fun _ _ _ _ _ => pe_call G1 hr1 rfl g1 F1.kp b1 .nil pass0 (pa_cons (pe_op op_xor (pv 2) (pv 3)) pa_nil))) pa_nil))), ?_⟩
    refine ⟨_, rfl, _, rfl, a, b, _, _, rfl, hx, hy, fun D hD => ?_⟩
    refine lc_it (walk_zip rfl) (fun i H' => Same H H' ∧ H' D = some (.lst (((xs.zip ys).take i).map fun p => nV (pop (p.1 ^^^ p.2))))) ⟨same_upd hD, upd_same⟩ (fun i H' _ p => ⟨p.1.seq hx, p.1.seq hy⟩) ?_ ?_
    · rintro i x H1 H2 hi ⟨sm, eD⟩ ⟨T, x1, x2, rfl, nT, rfl, e1, e2⟩
      obtain ⟨n1, i1, rfl⟩ := map_at e1
      obtain ⟨n2, i2, rfl⟩ := map_at e2
      have hT : D ≠ T := ne_of_none eD nT
      refine ⟨T, _, rfl, .inl (.inl upd_same), rfl, _, _, rfl, _, _, rfl, rfl, ?_⟩
      refine ⟨rfl, yes ?_⟩
      refine ⟨_, rfl, _, rfl, _, _, rfl, rfl, n1 ^^^ n2, ?_, _, by rw [upd_ne hT]; exact eD, ?_, fun b o e => ?_, ?_⟩
      · show [V.int (Builtin.bitXor (n1 : Int) (n2 : Int))] = _
        rw [xor_nat]
      · rw [List.length_map, List.length_take, List.length_zip]
        exact smallL (by omega)
      · rw [upd_ne (ne_of_none e hD), upd_ne (ne_of_none (sm b o e) nT)]
        exact sm b o e
      · rw [upd_same, take_snoc (zip_at i1 i2), List.map_append]
        rfl
    · rintro H1 ⟨sm, eD⟩
      refine ⟨D, iL ((xs.zip ys).map fun p => pop (p.1 ^^^ p.2)), rfl, ?_, ?_⟩
      · rw [← nV_iL, List.map_map]
        rw [List.take_of_length_le (by rw [List.length_zip, List.length_map, List.length_map]; omega)] at eD
        exact .inl (.inl eD)
      · rw [iL_sum]
        exact q H1 sm
theorem scMk : FnScope ["d", "letters", "least", "first", "reached", "letter", "number", "other"] ["d", "letters", "least", "first"] (defScope sMark) := ⟨rfl, rfl, rfl, by decide +kernel, rfl, by decide +kernel, by decide +kernel⟩
/-! ### mark_group -/
def spMark (K : PySem.W.Frag) : Sp := fun vs H Q _ => ∃ (d t : Nat) (p G : Addr) (rs : List Addr) (xs : List Nat) (n : Nat) (L0 : List (Option Nat)), vs = [nV d, .ref p, .ref G, nV t] ∧ rs.length = n ∧ H p = some (.lst (rs.map V.ref)) ∧
  (∀ (k : Nat) (r : Addr), rs[k]? = some r → H r = some (.lst ((letter xs k).map nV)) ∧ r ≠ G) ∧ p ≠ G ∧ H G = some (.lst (L0.map oV)) ∧ xs.length = 16 * n ∧ n ≤ 257 ∧ Lbl d xs n t L0 ∧ L0[t]? = some none ∧
  ∀ H' L, Keep G H H' → H' G = some (.lst (L.map oV)) → Told d xs n t L0 L → Q .non H'
/-- between two letters that are looked at -/
def MarkAt (d t : Nat) (p G R : Addr) (xs : List Nat) (n : Nat) (L0 : List (Option Nat)) (H : Hp) (m : Nat) (σ : L2.St) (H' : Hp) : Prop :=
  ∃ (L : List (Option Nat)) (Rn : List Nat) (y5 y6 y7 : Option V), σ = [some (nV d), some (.ref p), some (.ref G), some (nV t), some (.ref R), y5, y6, y7] ∧ Keep G H H' ∧ H' G = some (.lst (L.map oV)) ∧ H' R = some (.lst (Rn.map nV)) ∧ Mk d xs n t L0 L Rn ∧ nones L + Rn.length = m ∧ m ≤ n
theorem ok_mark {f ff f1 : Addr} {fd fdf fd1 : FuncData} (F : Fun K "mark_group" "mark_group" sMark f fd) (FF : Fun K "how_far" "how_far" sFar ff fdf) (F1 : Fun K "count_ones" "count_ones" sOnes f1 fd1)
    (bf : Binds K fdf ["a", "b"] []) (b1 : Binds K fd1 ["number"] []) (gf : mg "how_far" = some (.ref ff)) (g1 : mg "count_ones" = some (.ref f1))
    (mz : mg "zip" = none) (ms : mg "sum" = none) (ml : mg "len" = none) (me : mg "enumerate" = none) : FnOk P w K mg base CX0 3 f fd ["d", "letters", "least", "first"] (spMark K) := by
  have GF : FnOk P w K mg base CX0 2 ff fdf ["a", "b"] (spFar K) := ok_far FF F1 b1 g1 mz ms
  refine F.ok scMk (fun vs H Q E h => ?_) (fun cdv A outer s H vs Q E hr h => ?_)
  · obtain ⟨d, t, p, G, rs, xs, n, L0, rfl, _⟩ := h
    rfl
  · obtain ⟨d, t, p, G, rs, xs, n, L0, rfl, hrs, ep, er, npG, eG, hl, hn, lb, ht, q⟩ := h
    have hr2 : Room 2 _ := hr
    have htn : t < n := by
      have := (List.getElem?_eq_some_iff.mp ht).1
      rw [lb.len] at this
      exact this
    refine ⟨_, pss_cons (ps_asg (pv 3) (pg_sub (pv 2) (pv 3) set_list))
      (pss_cons (ps_set (i := 4) scMk.nd rfl (.inl rfl) (pe_lst (pa_cons (pv 3) pa_nil)))
      (pss_one (ps_while PassesOwn.never (pt_cmpR op_gt (pe_callB call_len_seq (by rfl) ml PySem.boot_len (pa_cons (pv 4) pa_nil)) pe_int (nomark _))
        (pss_cons (ps_set (i := 5) scMk.nd rfl (.inl rfl) (pe_ix (r := rIxL K) ix_list (pv 1) (pe_bm0 PySem.F.plainAttrs_list PySem.F.slot_list_pop PySem.F.type_list_pop mt_pop (pv 4)) (fun _ _ => rfl)))
        (pss_one (ps_for PassesOwn.never rfl (pi_enum (by rfl) me (pa_cons (pv 1) pa_nil)) (pg_tup rfl (pgs_cons (pg_name (i := 6) scMk.nd rfl (.inl rfl)) (pgs_cons (pg_name (i := 7) scMk.nd rfl (.inl rfl)) pgs_nil)))
          (pss_one (ps_if (PW.pt (pw_and (pt_cmpR op_isN (pe_ix (r := rIxL K) ix_list (pv 2) (pv 6) (fun _ _ => rfl)) pe_non (nomark _))
              (pw_and1 (pt_cmpR op_le (pe_call GF hr2 (by rfl) gf FF.kp bf .nil pass0 (pa_cons (pv 5) (pa_cons (pv 7) pa_nil))) (pv 0) (nomark _)))))
            (pss_cons (ps_asg (pv 3) (pg_sub (pv 2) (pv 6) set_list))
              (pss_one (ps_expr (pe_bm PySem.F.plainAttrs_list PySem.F.slot_list_append PySem.F.type_list_append mt_append (pv 4) (pa_cons (pv 6) pa_nil)))))
            pss_nil)))))))), ?_⟩
    -- least[first] = first
    refine ⟨_, rfl, _, rfl, _, rfl, G, _, _, t, rfl, rfl, eG, ixN_nat (by rw [List.length_map, lb.len]; exact htn), ?_⟩
    rw [set_oV]
    have k1 : Keep G H (upd H G (.lst ((L0.set t (some t)).map oV))) := Keep.put fun b o _ e => e
    -- reached = [first]
    refine ⟨_, rfl, by show 1 ≤ sizeLine; decide, fun R nR => ?_⟩
    have nGR : G ≠ R := ne_of_none upd_same nR
    have nR0 : H R = none := (upd_ne nGR.symm).symm.trans nR
    have npR : p ≠ R := ne_of_none ep nR0
    have cn := nones_set (v := t) ht
    have cl : nones L0 ≤ n := by
      rw [← lb.len]
      exact List.countP_le_length
    refine ⟨MarkAt d t p G R xs n L0 H, ⟨_, L0.set t (some t), [t], none, none, none, rfl, k1.fresh nR0, (upd_ne nGR).trans upd_same, upd_same, Mk.start lb.len ht, rfl, by show nones (L0.set t (some t)) + 1 ≤ n; omega⟩, ?_⟩
    rintro m σ H1 ⟨L, Rn, y5, y6, y7, rfl, kp, eG1, eR1, mk, em, hm⟩
    have ep1 : H1 p = some (.lst (rs.map V.ref)) := kp p _ npG ep
    -- while len(reached) > 0
    refine ⟨_, rfl, R, _, rfl, .inl (.inl (.inl eR1)), _, _, rfl, rfl, _, rfl, ite2 (fun e => ?_) (fun e => ?_)⟩
    · have hR : 0 < Rn.length := by
        have := of_decide_eq_true e
        rw [List.length_map] at this
        omega
      obtain ⟨Rp, x, rfl⟩ := snoc_of hR
      have md0 := mk.pop
      have hxn : x < n := md0.now.lt.2
      obtain ⟨r, hr'⟩ := at_has (show x < rs.length by omega)
      have cR : nones L + Rp.length + 1 = m := by
        rw [← em, List.length_append]
        rfl
      refine ⟨fun σ' H' => ∃ m', m' < m ∧ MarkAt d t p G R xs n L0 H m' σ' H', fun σ' H' h => h, ?_⟩
      -- letter = letters[reached.pop()]
      refine ⟨_, rfl, _, rfl, .inl ⟨rfl, _, .inl (.inl eR1)⟩, R, _, nV x, rfl, rfl, eR1, ?_, p, _, _, _, rfl, rfl, .inl (.inl ((upd_ne npR).trans ep1)), at_of rfl (show (rs.map V.ref)[x]? = some (V.ref r) by rw [List.getElem?_map, hr']; rfl), ?_⟩
      · rw [List.length_map, List.length_append, List.getElem?_map]
        show (Rp ++ [x])[Rp.length + 1 - 1]?.map nV = some (nV x)
        rw [Nat.add_sub_cancel, List.getElem?_append_right (Nat.le_refl _), Nat.sub_self]
        rfl
      have ed : ((Rp ++ [x]).map nV).dropLast = Rp.map nV := by
        rw [List.map_append]
        exact List.dropLast_concat
      rw [ed]
      have k2 : Keep G H (upd H1 R (.lst (Rp.map nV))) := kp.fresh nR0
      have eG2 : (upd H1 R (.lst (Rp.map nV))) G = some (.lst (L.map oV)) := (upd_ne nGR).trans eG1
      -- for number, other in enumerate(letters)
      refine ⟨_, rfl, p, _, rfl, .inl (.inl (k2 p _ npG ep)), ?_⟩
      refine for_it (walk_enum (xs := rs.map V.ref)) (fun k σ H' => ∃ (L' : List (Option Nat)) (Rq : List Nat) (y6 y7 : Option V), σ = [some (nV d), some (.ref p), some (.ref G), some (nV t), some (.ref R), some (.ref r), y6, y7] ∧ Keep G H H' ∧ H' G = some (.lst (L'.map oV)) ∧ H' R = some (.lst (Rq.map nV)) ∧ Md d xs n t L0 L' Rq x k ∧ nones L' + Rq.length = nones L + Rp.length)
        ⟨L, Rp, y6, y7, rfl, k2, eG2, upd_same, md0, rfl⟩ (fun k σ H' _ g => by
          obtain ⟨_, _, _, _, _, k3, _⟩ := g
          exact .inl (.inl (k3 p _ npG ep))) ?_ ?_
      · rintro k z σ H2 H3 hk ⟨L', Rq, y6, y7, rfl, k3, eG3, eR3, md, cm⟩ ⟨T, x1, x2, rfl, nT, rfl, e1, e2⟩
        have e1' : V.int (k : Int) = x1 := Option.some.inj e1
        subst e1'
        have hk' : k < n := by
          rw [List.length_map, hrs] at hk
          exact hk
        obtain ⟨o, ho, rfl⟩ := map_at e2
        have nTG : G ≠ T := ne_of_none eG3 nT
        have nTR : R ≠ T := ne_of_none eR3 nT
        have s4 : Same H2 (upd H2 T (.tup [V.int (k : Int), V.ref o])) := same_upd nT
        have k4 : Keep G H (upd H2 T (.tup [V.int (k : Int), V.ref o])) := k3.trans (Keep.of s4)
        refine ⟨T, _, rfl, .inl (.inl upd_same), rfl, _, _, rfl, _, _, rfl, rfl, ?_⟩
        obtain ⟨lk, elk⟩ := at_has (show k < L'.length by rw [md.len]; exact hk')
        -- least[number] is None
        refine ⟨_, rfl, _, rfl, G, _, _, _, rfl, rfl, .inl (.inl (s4 _ _ eG3)), at_of rfl (show (L'.map oV)[k]? = some (oV lk) by rw [List.getElem?_map, elk]; rfl), rfl, _, rfl, ?_⟩
        cases lk with
        | some v =>
          rw [decide_eq_false (show ¬ oV (some v) = V.non from fun z => by cases z)]
          refine iteF (iteF ?_)
          have nn : ¬ (L'[k]? = some none ∧ far (letter xs x) (letter xs k) ≤ d) := fun z => by
            rw [elk] at z
            have := Option.some.inj z.1
            cases this
          exact ⟨L', Rq, _, _, rfl, k4, s4 _ _ eG3, s4 _ _ eR3, md.no nn, cm⟩
        | none =>
          rw [decide_eq_true (show oV none = V.non from rfl)]
          refine iteT ?_
          -- how_far(letter, other) <= d
          have er1 := er x r hr'
          have er2 := er k o ho
          refine ⟨_, rfl, _, rfl, r, o, letter xs x, letter xs k, rfl, .inl (.inl (k4 _ _ er1.2 er1.1)), .inl (.inl (k4 _ _ er2.2 er2.1)), Nat.le_of_eq (letter_len hl hxn), fun H5 s5 => ?_⟩
          have k5 : Keep G H H5 := k4.trans (Keep.of s5)
          have eG5 := s5 _ _ (s4 _ _ eG3)
          have eR5 := s5 _ _ (s4 _ _ eR3)
          refine ⟨_, rfl, _, _, rfl, rfl, _, rfl, ite2 (fun e => ?_) (fun e => ?_)⟩
          · have hf : far (letter xs x) (letter xs k) ≤ d := by
              have := of_decide_eq_true e
              omega
            have c1 := nones_set (v := t) elk
            -- least[number] = first
            refine ⟨_, rfl, _, rfl, _, rfl, G, _, _, k, rfl, rfl, eG5, ixN_nat (by rw [List.length_map, md.len]; exact hk'), ?_⟩
            rw [set_oV]
            have eR6 : (upd H5 G (.lst ((L'.set k (some t)).map oV))) R = some (.lst (Rq.map nV)) := (upd_ne nGR.symm).trans eR5
            -- reached.append(number)
            refine ⟨_, rfl, .inl ⟨rfl, _, .inl (.inl eR6)⟩, _, rfl, R, _, _, rfl, rfl, eR6, ?_, L'.set k (some t), Rq ++ [k], _, _, rfl, (Keep.put k5).fresh nR0, (upd_ne nGR).trans upd_same, ?_, md.yes elk hf, ?_⟩
            · rw [List.length_map]
              exact smallL (by omega)
            · rw [upd_same, List.map_append]
              rfl
            · rw [List.length_append]
              show nones (L'.set k (some t)) + (Rq.length + 1) = _
              omega
          · refine ⟨L', Rq, _, _, rfl, k5, eG5, eR5, md.no fun z => ?_, cm⟩
            have := of_decide_eq_false (Bool.not_eq_true _ ▸ e)
            have := z.2
            omega
      · rintro σ H2 ⟨L', Rq, y6, y7, rfl, k3, eG3, eR3, md, cm⟩
        rw [List.length_map, hrs] at md
        exact ⟨nones L' + Rq.length, by omega, L', Rq, _, _, _, rfl, k3, eG3, eR3, md.back, rfl, by omega⟩
    · have hR : Rn = [] := by
        have := of_decide_eq_false (Bool.not_eq_true _ ▸ e)
        rw [List.length_map] at this
        exact List.eq_nil_of_length_eq_zero (by omega)
      subst hR
      exact q H1 L kp eG1 (mk.told lb ht)
theorem scGr : FnScope ["d", "font", "letters", "least", "groups", "number"] ["d", "font"] (defScope sGroups) := ⟨rfl, rfl, rfl, by decide +kernel, rfl, by decide +kernel, by decide +kernel⟩
/-! ### lt_groups -/
def spGroups (K : PySem.W.Frag) : Sp := fun vs H Q _ => ∃ (d : Nat) (a : Addr) (xs : List Nat) (n : Nat), vs = [nV d, .ref a] ∧ SqL K H a (xs.map nV) ∧ xs.length = 16 * n ∧ n ≤ 257 ∧
  (Sh60.some_ n = true → ∀ gs : List Nat, gs.length = n → (∀ j v, gs[j]? = some v → Way d xs n v j ∧ ∀ m, m < v → ¬ Way d xs n m j) →
    ∀ H' p, H' p = some (.lst ((iL (((List.range n).filter fun j => gs[j]? == some j).length :: gs)).map V.int)) → Q (.ref p) H') ∧
  (Sh60.some_ n = false → ∀ H' p, H' p = some (.lst [V.int (-2)]) → Q (.ref p) H')
theorem ok_groups {f fz fl fpa fm ff f1 : Addr} {fd fdz fdl fdpa fdm fdf fd1 : FuncData} (F : Fun K "lt_groups" "lt_groups" sGroups f fd) (FZ : Fun K "is_size" "is_size" sSize fz fdz) (FL : Fun K "letters_of" "letters_of" sLet fl fdl) (FPa : Fun K "parts_of" "parts_of" sPart fpa fdpa) (FM : Fun K "mark_group" "mark_group" sMark fm fdm) (FF : Fun K "how_far" "how_far" sFar ff fdf) (F1 : Fun K "count_ones" "count_ones" sOnes f1 fd1)
    (bz : Binds K fdz ["number"] []) (bl : Binds K fdl ["font"] []) (bpa : Binds K fdpa ["numbers", "length"] []) (bm : Binds K fdm ["d", "letters", "least", "first"] []) (bf : Binds K fdf ["a", "b"] []) (b1 : Binds K fd1 ["number"] [])
    (gz : mg "is_size" = some (.ref fz)) (gl : mg "letters_of" = some (.ref fl)) (gpa : mg "parts_of" = some (.ref fpa)) (gm : mg "mark_group" = some (.ref fm)) (gf : mg "how_far" = some (.ref ff)) (g1 : mg "count_ones" = some (.ref f1))
    (mz : mg "zip" = none) (ms : mg "sum" = none) (mr : mg "range" = none) (ml : mg "len" = none) (me : mg "enumerate" = none) : FnOk P w K mg base CX0 4 f fd ["d", "font"] (spGroups K) := by
  have GZ : FnOk P w K mg base CX0 1 fz fdz ["number"] spSize := ok_size FZ
  have GL : FnOk P w K mg base CX0 2 fl fdl ["font"] (spLet K) := ok_let FL FPa bpa gpa mr ml
  have GM : FnOk P w K mg base CX0 3 fm fdm ["d", "letters", "least", "first"] (spMark K) := ok_mark FM FF F1 bf b1 gf g1 mz ms ml me
  refine F.ok scGr (fun vs H Q E h => ?_) (fun cdv A outer s H vs Q E hr h => ?_)
  · obtain ⟨d, a, xs, n, rfl, _⟩ := h
    rfl
  · obtain ⟨d, a, xs, n, rfl, hx, hl, hn, q1, q2⟩ := h
    have hr1 : Room 1 _ := hr.mono (by decide)
    have hr2 : Room 2 _ := hr.mono (by decide)
    have hr3 : Room 3 _ := hr
    refine ⟨_, pss_cons (ps_set (i := 2) scGr.nd rfl (.inl rfl) (pe_call GL hr2 (by rfl) gl FL.kp bl .nil pass0 (pa_cons (pv 1) pa_nil)))
      (pss_cons (ps_if (pt_not (pt_val (pe_call GZ hr1 (by rfl) gz FZ.kp bz .nil pass0 (pa_cons (pe_callB call_len_seq (by rfl) ml PySem.boot_len (pa_cons (pv 2) pa_nil)) pa_nil))))
        (pss_one (ps_ret (pe_lst (pa_cons (pe_un un_neg pe_int) pa_nil)))) pss_nil)
      (pss_cons (ps_set (i := 3) scGr.nd rfl (.inl rfl) (pe_op op_rep (pe_lst (pa_cons pe_non pa_nil)) (pe_callB call_len_seq (by rfl) ml PySem.boot_len (pa_cons (pv 2) pa_nil))))
      (pss_cons (ps_set (i := 4) scGr.nd rfl (.inl rfl) pe_int)
      (pss_cons (ps_for PassesOwn.never rfl (pi_range1 (by rfl) mr (pa_cons (pe_callB call_len_seq (by rfl) ml PySem.boot_len (pa_cons (pv 2) pa_nil)) pa_nil)) (pg_name (i := 5) scGr.nd rfl (.inl rfl))
        (pss_one (ps_if (pt_cmpR op_isN (pe_ix (r := rIxL K) ix_list (pv 3) (pv 5) (fun _ _ => rfl)) pe_non (nomark _))
          (pss_cons (ps_expr (pe_call GM hr3 (by rfl) gm FM.kp bm .nil pass0 (pa_cons (pv 0) (pa_cons (pv 2) (pa_cons (pv 3) (pa_cons (pv 5) pa_nil))))))
            (pss_one (ps_aug (i := 4) scGr.nd rfl (.inl rfl) pe_int ip_add)))
          pss_nil)))
      (pss_one (ps_ret (pe_op op_catS (pe_lst (pa_cons (pv 4) pa_nil)) (pv 3)))))))), ?_⟩
    -- letters = letters_of(font)
    refine ⟨_, rfl, a, xs, n, rfl, hx, hl, hn, fun H1 p sm np hp => ?_⟩
    obtain ⟨rs, hrs, ep, er⟩ := hp
    have hS : SqL K H1 p (rs.map V.ref) := .inl (.inl ep)
    have ern : ((rs.map V.ref).length : Int) = (n : Int) := by rw [List.length_map, hrs]
    -- if not is_size(len(letters))
    refine ⟨_, rfl, p, _, rfl, .inl hS, _, rfl, _, rfl, ?_⟩
    have es : sizeOk (((rs.map V.ref).length : Nat) : Int) = Sh60.some_ n := by
      rw [List.length_map, hrs, some_is]
      unfold sizeOk
      refine congr (congrArg and ?_) ?_
      · exact decide_eq_decide.mpr (by omega)
      · exact decide_eq_decide.mpr (by omega)
    rw [es]
    cases k : Sh60.some_ n with
    | false =>
      refine iteT ⟨_, rfl, by show 1 ≤ sizeLine; decide, fun u hu => q2 k _ u ?_⟩
      rw [upd_same]
    | true =>
    have q := q1 k
    refine iteF ?_
    -- least = [None] * len(letters)
    refine ⟨by show 1 ≤ sizeLine; decide, fun u hu => ?_⟩
    have s2 : Same H1 (upd H1 u (.lst [.non])) := same_upd hu
    refine ⟨_, rfl, p, _, rfl, .inl (s2.seq hS), u, _, _, rfl, rfl, upd_same, by rw [ern]; omega, by rw [ern]; omega, ?_, fun G hG => ?_⟩
    · rw [ern, Int.toNat_natCast]
      exact smallE (by show 1 * n ≤ 70000; omega)
    have eL : (List.replicate ((rs.map V.ref).length : Int).toNat [V.non]).flatten = (List.replicate n none).map oV := by
      rw [ern, Int.toNat_natCast, List.flatten_replicate_singleton, List.map_replicate]
      rfl
    rw [eL]
    generalize hb : upd (upd H1 u (.lst [.non])) G (.lst ((List.replicate n none).map oV)) = Hb
    have s3 : Same H1 Hb := by
      rw [← hb]
      exact s2.trans (same_upd hG)
    have eG : Hb G = some (.lst ((List.replicate n none).map oV)) := by
      rw [← hb]
      exact upd_same
    have nG1 : H1 G = none := s2.free hG
    have npG : p ≠ G := ne_of_none ep nG1
    have epb := s3 _ _ ep
    have erb : ∀ (k : Nat) (r : Addr), rs[k]? = some r → Hb r = some (.lst ((letter xs k).map nV)) ∧ r ≠ G := fun k r e => ⟨s3 _ _ (er k r e).1, ne_of_none (er k r e).1 nG1⟩
    -- for number in range(len(letters))
    refine ⟨_, rfl, p, _, rfl, .inl (s3.seq hS), _, rfl, by rw [ern]; omega, by rw [ern]; omega, ?_⟩
    rw [ern, Int.toNat_natCast]
    refine for_it walk_range (fun j σ H' => ∃ (L : List (Option Nat)) (y5 : Option V), σ = [some (nV d), some (.ref a), some (.ref p), some (.ref G), some (nV (ownTo L j)), y5] ∧ Keep G Hb H' ∧ H' G = some (.lst (L.map oV)) ∧ Lbl d xs n j L)
      ⟨List.replicate n none, none, rfl, fun b o _ e => e, eG, Lbl.start⟩ (fun _ _ _ _ _ => trivial) ?_ ?_
    · rintro j x σ _ H2 hj ⟨L, y5, rfl, kp, eG2, lb⟩ ⟨rfl, rfl⟩
      have hj' : j < n := hj
      obtain ⟨lj, elj⟩ := at_has (show j < L.length by rw [lb.len]; exact hj')
      have ez : (0 : Int) + (j : Int) = ((j : Nat) : Int) := Int.zero_add _
      -- if least[number] is None
      refine ⟨_, rfl, _, rfl, G, _, _, _, rfl, rfl, .inl (.inl eG2), at_of ez (show (L.map oV)[j]? = some (oV lj) by rw [List.getElem?_map, elj]; rfl), rfl, _, rfl, ?_⟩
      cases lj with
      | some v =>
        rw [decide_eq_false (show ¬ oV (some v) = V.non from fun z => by cases z)]
        refine iteF ?_
        exact ⟨L, some (V.int (0 + (j : Int))), by rw [lb.own_skip elj]; rfl, kp, eG2, lb.skip elj⟩
      | none =>
        rw [decide_eq_true (show oV none = V.non from rfl)]
        refine iteT ?_
        -- mark_group(d, letters, least, number)
        refine ⟨_, rfl, _, rfl, _, rfl, _, rfl, d, j, p, G, rs, xs, n, L, by show [nV d, V.ref p, V.ref G, V.int (0 + (j : Int))] = _; rw [ez], hrs, kp _ _ npG epb, fun k r e => ⟨kp _ _ (erb k r e).2 (erb k r e).1, (erb k r e).2⟩, npG, eG2, hl, hn, lb, elj, fun H3 M k3 eG3 td => ?_⟩
        -- groups += 1
        refine ⟨_, rfl, _, _, rfl, rfl, M, some (V.int (0 + (j : Int))), ?_, kp.trans k3, eG3, lb.mark elj td⟩
        rw [lb.own_mark elj td]
        rfl
    · rintro σ H2 ⟨L, y5, rfl, kp, eG2, lb⟩
      obtain ⟨gs, rfl, hgs, hw, hc⟩ := lb.done
      -- return [groups] + least
      refine ⟨_, rfl, by show 1 ≤ sizeLine; decide, fun v hv => ?_⟩
      have nGv : G ≠ v := ne_of_none eG2 hv
      refine ⟨_, rfl, v, G, _, _, rfl, rfl, .inl (.inl upd_same), .inl (.inl ((upd_ne nGv).trans eG2)), ?_, fun z hz => ?_⟩
      · rw [List.length_map, List.length_map, hgs]
        exact smallE (by show 1 + n ≤ 70000; omega)
      · refine q gs hgs hw _ z ?_
        rw [upd_same, hc, ← nV_iL, List.map_map]
        rfl
end
/-! ### what the top has written -/
theorem all_mk {P : Program} {w : World} {K : PySem.W.Frag} {h : Heap} {mg : Str → Option Value} {fa f1 f2 f3 f4 f5 f6 f7 : Addr} (X : K.In h) (G : h.Ns mainGlobals mg) (hfa : mg "lt_groups" = some (.ref fa))
    {od1 an1 od2 an2 od3 an3 od4 an4 od5 an5 od6 an6 od7 an7 : Option Addr} {sl1 sl2 sl3 sl4 sl5 sl6 sl7 : Array (Option Value)} {oc1 kV1 dc1 pm1 cd1 ct1 oc2 kV2 dc2 pm2 cd2 ct2 oc3 kV3 dc3 pm3 cd3 ct3 oc4 kV4 dc4 pm4 cd4 ct4 oc5 kV5 dc5 pm5 cd5 ct5 oc6 kV6 dc6 pm6 cd6 ct6 oc7 kV7 dc7 pm7 cd7 ct7 : Value}
    (a1 : PySem.W.nsIn K mainGlobals "is_size" = some (some (.ref f1))) (l1 : K.lookup f1 = some ⟨oc1, od1, .func (PySem.W.fnOf "is_size" "is_size" (defArgs sSize) (defBody sSize) (defScope sSize) .none kV1 dc1 pm1 an1 cd1 ct1), sl1⟩) (c1 : PySem.W.codeIn K cd1 "is_size" = true) (k1 : PySem.W.keepIn K (.ref f1) = true)
    (a2 : PySem.W.nsIn K mainGlobals "count_ones" = some (some (.ref f2))) (l2 : K.lookup f2 = some ⟨oc2, od2, .func (PySem.W.fnOf "count_ones" "count_ones" (defArgs sOnes) (defBody sOnes) (defScope sOnes) .none kV2 dc2 pm2 an2 cd2 ct2), sl2⟩) (c2 : PySem.W.codeIn K cd2 "count_ones" = true) (k2 : PySem.W.keepIn K (.ref f2) = true)
    (a3 : PySem.W.nsIn K mainGlobals "parts_of" = some (some (.ref f3))) (l3 : K.lookup f3 = some ⟨oc3, od3, .func (PySem.W.fnOf "parts_of" "parts_of" (defArgs sPart) (defBody sPart) (defScope sPart) .none kV3 dc3 pm3 an3 cd3 ct3), sl3⟩) (c3 : PySem.W.codeIn K cd3 "parts_of" = true) (k3 : PySem.W.keepIn K (.ref f3) = true)
    (a4 : PySem.W.nsIn K mainGlobals "letters_of" = some (some (.ref f4))) (l4 : K.lookup f4 = some ⟨oc4, od4, .func (PySem.W.fnOf "letters_of" "letters_of" (defArgs sLet) (defBody sLet) (defScope sLet) .none kV4 dc4 pm4 an4 cd4 ct4), sl4⟩) (c4 : PySem.W.codeIn K cd4 "letters_of" = true) (k4 : PySem.W.keepIn K (.ref f4) = true)
    (a5 : PySem.W.nsIn K mainGlobals "how_far" = some (some (.ref f5))) (l5 : K.lookup f5 = some ⟨oc5, od5, .func (PySem.W.fnOf "how_far" "how_far" (defArgs sFar) (defBody sFar) (defScope sFar) .none kV5 dc5 pm5 an5 cd5 ct5), sl5⟩) (c5 : PySem.W.codeIn K cd5 "how_far" = true) (k5 : PySem.W.keepIn K (.ref f5) = true)
    (a6 : PySem.W.nsIn K mainGlobals "mark_group" = some (some (.ref f6))) (l6 : K.lookup f6 = some ⟨oc6, od6, .func (PySem.W.fnOf "mark_group" "mark_group" (defArgs sMark) (defBody sMark) (defScope sMark) .none kV6 dc6 pm6 an6 cd6 ct6), sl6⟩) (c6 : PySem.W.codeIn K cd6 "mark_group" = true) (k6 : PySem.W.keepIn K (.ref f6) = true)
    (a7 : PySem.W.nsIn K mainGlobals "lt_groups" = some (some (.ref f7))) (l7 : K.lookup f7 = some ⟨oc7, od7, .func (PySem.W.fnOf "lt_groups" "lt_groups" (defArgs sGroups) (defBody sGroups) (defScope sGroups) .none kV7 dc7 pm7 an7 cd7 ct7), sl7⟩) (c7 : PySem.W.codeIn K cd7 "lt_groups" = true) (k7 : PySem.W.keepIn K (.ref f7) = true)
    (z1 : PySem.W.nsIn K mainGlobals "zip" = some none) (z2 : PySem.W.nsIn K mainGlobals "sum" = some none) (z3 : PySem.W.nsIn K mainGlobals "range" = some none) (z4 : PySem.W.nsIn K mainGlobals "len" = some none) (z5 : PySem.W.nsIn K mainGlobals "enumerate" = some none) :
    ∃ fd : FuncData, (∀ (s : Shared) (us : List Value), us.length = (["d", "font"] : List Str).length → BindsTo s fd ⟨us, []⟩ ((["d", "font"] : List Str).zip us)) ∧ ∀ base : Heap, K.In base → base.Ns mainGlobals mg → FnOk P w K mg base CX0 4 fa fd ["d", "font"] (spGroups K) := by
  have e := hfa.symm.trans (PySem.W.mg_of X G a7)
  cases e
  have F1 := fun_mk (st := sSize) l1 c1 k1
  have F2 := fun_mk (st := sOnes) l2 c2 k2
  have F3 := fun_mk (st := sPart) l3 c3 k3
  have F4 := fun_mk (st := sLet) l4 c4 k4
  have F5 := fun_mk (st := sFar) l5 c5 k5
  have F6 := fun_mk (st := sMark) l6 c6 k6
  have F7 := fun_mk (st := sGroups) l7 c7 k7
  have b1 := F1.binds (ps := ["number"]) fun _ _ _ _ _ _ us hl => match us, hl with | [_], _ => rfl
  have b2 := F2.binds (ps := ["number"]) fun _ _ _ _ _ _ us hl => match us, hl with | [_], _ => rfl
  have b3 := F3.binds (ps := ["numbers", "length"]) fun _ _ _ _ _ _ us hl => match us, hl with | [_, _], _ => rfl
  have b4 := F4.binds (ps := ["font"]) fun _ _ _ _ _ _ us hl => match us, hl with | [_], _ => rfl
  have b5 := F5.binds (ps := ["a", "b"]) fun _ _ _ _ _ _ us hl => match us, hl with | [_, _], _ => rfl
  have b6 := F6.binds (ps := ["d", "letters", "least", "first"]) fun _ _ _ _ _ _ us hl => match us, hl with | [_, _, _, _], _ => rfl
  have g1 := PySem.W.mg_of X G a1
  have g2 := PySem.W.mg_of X G a2
  have g3 := PySem.W.mg_of X G a3
  have g4 := PySem.W.mg_of X G a4
  have g5 := PySem.W.mg_of X G a5
  have g6 := PySem.W.mg_of X G a6
  have g7 := PySem.W.mg_of X G a7
  have mZip := PySem.W.mg_none_of X G z1
  have mSum := PySem.W.mg_none_of X G z2
  have mRange := PySem.W.mg_none_of X G z3
  have mLen := PySem.W.mg_none_of X G z4
  have mEnumerate := PySem.W.mg_none_of X G z5
  exact ⟨PySem.W.fnOf "lt_groups" "lt_groups" (defArgs sGroups) (defBody sGroups) (defScope sGroups) .none kV7 dc7 pm7 an7 cd7 ct7, fun s us hu => match us, hu with | [_, _], _ => .of_eq rfl,
    fun base _ _ => ok_groups F7 F1 F4 F3 F6 F5 F2 b1 b4 b3 b6 b5 b2 g1 g4 g3 g6 g5 g2 mZip mSum mRange mLen mEnumerate⟩
end Lt
open PySem PySem.W PyProof.Rows
set_option maxRecDepth 100000 in
set_option maxHeartbeats 8000000 in
theorem PySem.Challenge.cw_likelettersdesk_s09_lt_groups_holds : PySem.Challenge.rw_likelettersdesk_s09_lt_groups.Holds := by
  w_on; k_headS; (case hw => exact ⟨[.int 0, .list []], by decide +kernel, by decide +kernel⟩)
  k_fillS
  refine L2.walk_specK (r := PySem.Challenge.rw_likelettersdesk_s09_lt_groups) (k := 4) (CX := L2.CX0) (ps := ["d", "font"]) (sp := Lt.spGroups) (by decide +kernel) rfl rfl ⟨rfl, by decide, by decide⟩ (fun w h Y => PySem.W.kIn_of Y) ?F ?S (fun _ _ _ _ z => z)
  case F =>
    intro w mg fa h Y KX G hmg
    refine' Lt.all_mk KX G hmg ?a1 ?l1 ?c1 ?k1 ?a2 ?l2 ?c2 ?k2 ?a3 ?l3 ?c3 ?k3 ?a4 ?l4 ?c4 ?k4 ?a5 ?l5 ?c5 ?k5 ?a6 ?l6 ?c6 ?k6 ?a7 ?l7 ?c7 ?k7 ?z1 ?z2 ?z3 ?z4 ?z5
    (case a1 => k_is); (case l1 => k_is); (case c1 => k_is); (case k1 => k_is)
    (case a2 => k_is); (case l2 => k_is); (case c2 => k_is); (case k2 => k_is)
    (case a3 => k_is); (case l3 => k_is); (case c3 => k_is); (case k3 => k_is)
    (case a4 => k_is); (case l4 => k_is); (case c4 => k_is); (case k4 => k_is)
    (case a5 => k_is); (case l5 => k_is); (case c5 => k_is); (case k5 => k_is)
    (case a6 => k_is); (case l6 => k_is); (case c6 => k_is); (case k6 => k_is)
    (case a7 => k_is); (case l7 => k_is); (case c7 => k_is); (case k7 => k_is)
    (case z1 => k_is)
    (case z2 => k_is)
    (case z3 => k_is)
    (case z4 => k_is)
    (case z5 => k_is)
  case S =>
    intro K H xs a hO hwi hask hx
    obtain ⟨d, font, u⟩ := a
    cases hx with
    | cons h1 h2 =>
      cases h2 with
      | cons h3 h4 =>
        cases h4
        cases h1
        cases h3 with
        | lst hs ha =>
          have e1 := L2.ints_dw font _ ha
          subst e1
          have q : (Codec.inInt 0 4294967295 d && ((Codec.inLen 0 4112 font && font.all (Codec.inInt 0 65535)) && true)) = true := hwi
          rw [Bool.and_eq_true, Bool.and_eq_true, Bool.and_eq_true] at q
          have hlen := (Codec.inNat_iff.mp q.2.1.1).2
          obtain ⟨e, ls, n, rfl, rfl, _, hl, _, d1, d2⟩ := Lt.due_groups d font hask
          rw [Lt.iL_length] at hlen
          refine ⟨e, _, ls, n, rfl, by rw [Lt.nV_iL]; exact hs, hl, by omega, fun c gs hg hw H' p hp => ?_, fun c H' p hp => ?_⟩
          · show L2.Dw K H' (.ref p) (WData.list ((PySh60.lt_groups (e : Int) (Lt.iL ls)).map WData.int))
            rw [d1 c gs hg hw]
            exact .lst (L2.SqL.of hp) (L2.dw_ints _)
          · show L2.Dw K H' (.ref p) (WData.list ((PySh60.lt_groups (e : Int) (Lt.iL ls)).map WData.int))
            rw [d2 c]
            exact .lst (L2.SqL.of hp) (L2.dw_ints [-2])
#print axioms PySem.Challenge.cw_likelettersdesk_s09_lt_groups_holds
