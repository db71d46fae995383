import PyProof.Rows.All
import Wide.All
import OpenK.AllK
import Wide.FinOn
import Open.SpecLaws
import KE.OsGo
import HandS.ForSpec
import HandS.Comp
import HandS.Iter
import HandS.Text
import HandS.Walk
import PySem.Challenge.RW_likelettersdesk_s02_lt_greys
set_option Elab.async false
namespace Lt

/-! ### how many ones a number has -/
def pop (n : Nat) : Nat := if h : n = 0 then 0 else n % 2 + pop (n / 2)
termination_by n
decreasing_by exact Nat.div_lt_self (by omega) (by omega)
theorem pop_zero : pop 0 = 0 := by rw [pop]; rfl
theorem pop_eq (n : Nat) : pop n = n % 2 + pop (n / 2) := by
  by_cases h : n = 0
  · subst h
    rw [show 0 / 2 = 0 from rfl, pop_zero]
  · rw [pop, dif_neg h]
theorem and_split (a b : Nat) : a &&& b = 2 * (a / 2 &&& b / 2) + (a % 2 &&& b % 2) := by
  have h1 : (a &&& b) / 2 = a / 2 &&& b / 2 := Nat.and_div_two
  have h2 : (a &&& b) % 2 = (a % 2) &&& (b % 2) := by
    have := Nat.and_mod_two_pow (a := a) (b := b) (n := 1)
    simpa using this
  omega
theorem bit_and {a b : Nat} (ha : a < 2) (hb : b < 2) : a &&& b = a * b := by
  have h1 : a = 0 ∨ a = 1 := by omega
  have h2 : b = 0 ∨ b = 1 := by omega
  rcases h1 with rfl | rfl <;> rcases h2 with rfl | rfl <;> rfl
theorem clear_even {n m : Nat} (h : n = 2 * m) (hm : 0 < m) : n &&& (n - 1) = 2 * (m &&& (m - 1)) := by
  rw [and_split, show n / 2 = m by omega, show (n - 1) / 2 = m - 1 by omega, show n % 2 = 0 by omega, Nat.zero_and, Nat.add_zero]
theorem clear_odd {n m : Nat} (h : n = 2 * m + 1) : n &&& (n - 1) = 2 * m := by
  rw [and_split, show n / 2 = m by omega, show (n - 1) / 2 = m by omega, show (n - 1) % 2 = 0 by omega, Nat.and_zero, Nat.add_zero, Nat.and_self]
theorem pop_dbl (m : Nat) : pop (2 * m) = pop m := by
  rw [pop_eq, show 2 * m % 2 = 0 by omega, show 2 * m / 2 = m by omega, Nat.zero_add]
theorem pop_dbl1 (m : Nat) : pop (2 * m + 1) = pop m + 1 := by
  rw [pop_eq, show (2 * m + 1) % 2 = 1 by omega, show (2 * m + 1) / 2 = m by omega, Nat.add_comm]
/-- the lowest one goes -/
theorem pop_clear (n : Nat) (h : 0 < n) : pop (n &&& (n - 1)) + 1 = pop n := by
  induction n using Nat.strongRecOn with
  | _ n ih =>
    rcases Nat.mod_two_eq_zero_or_one n with e | e
    · obtain ⟨m, rfl⟩ : ∃ m, n = 2 * m := ⟨n / 2, by omega⟩
      have hm : 0 < m := by omega
      rw [clear_even rfl hm, pop_dbl, pop_dbl]
      exact ih m (by omega) hm
    · obtain ⟨m, rfl⟩ : ∃ m, n = 2 * m + 1 := ⟨n / 2, by omega⟩
      rw [clear_odd rfl, pop_dbl, pop_dbl1]
theorem clear_lt {n : Nat} (h : 0 < n) : n &&& (n - 1) < n := Nat.lt_of_le_of_lt Nat.and_le_right (by omega)

/-! ### by places -/
def cnt (k : Nat) (p : Nat → Bool) : Nat := ((List.range k).filter p).length
theorem cnt_zero (p : Nat → Bool) : cnt 0 p = 0 := rfl
theorem cnt_succ (k : Nat) (p : Nat → Bool) : cnt (k + 1) p = (if p 0 then 1 else 0) + cnt k (fun i => p (i + 1)) := by
  unfold cnt
  rw [List.range_succ_eq_map, List.filter_cons, List.filter_map, apply_ite List.length, List.length_cons, List.length_map]
  show (if p 0 = true then (List.filter (fun i => p (i + 1)) (List.range k)).length + 1 else (List.filter (fun i => p (i + 1)) (List.range k)).length) = _
  split <;> omega
theorem cnt_congr {k : Nat} {p q : Nat → Bool} (h : ∀ i, i < k → p i = q i) : cnt k p = cnt k q := by
  unfold cnt
  exact congrArg List.length (List.filter_congr fun i hi => h i (List.mem_range.mp hi))
theorem cnt_le (k : Nat) (p : Nat → Bool) : cnt k p ≤ k := by
  unfold cnt
  exact Nat.le_trans (List.length_filter_le _ _) (Nat.le_of_eq List.length_range)
theorem pop_cnt : ∀ (k n : Nat), n < 2 ^ k → pop n = cnt k n.testBit
  | 0, n, h => by
    have : n = 0 := by simpa using h
    rw [this, pop_zero, cnt_zero]
  | k + 1, n, h => by
    rw [pop_eq, pop_cnt k (n / 2) (by rw [Nat.pow_succ] at h; omega), cnt_succ]
    have e : (fun i => n.testBit (i + 1)) = (n / 2).testBit := by
      funext i
      exact Nat.testBit_succ n i
    rw [e]
    have e0 : n % 2 = if n.testBit 0 = true then 1 else 0 := by
      rw [Nat.testBit_zero]
      rcases Nat.mod_two_eq_zero_or_one n with z | z <;> simp [z]
    omega
theorem bitOf (n i : Nat) : (n / 2 ^ i % 2 == 1) = n.testBit i := by
  rw [Nat.testBit_eq_decide_div_mod_eq]
  rfl

/-! ### w & ~v -/
theorem less_split (w v : Nat) : w - (w &&& v) = 2 * (w / 2 - (w / 2 &&& v / 2)) + (w % 2 - (w % 2 &&& v % 2)) := by
  have h := and_split w v
  have h1 : w / 2 &&& v / 2 ≤ w / 2 := Nat.and_le_left
  have h2 : w % 2 &&& v % 2 ≤ w % 2 := Nat.and_le_left
  omega
theorem testBit_less (i : Nat) : ∀ w v : Nat, (w - (w &&& v)).testBit i = (w.testBit i && !v.testBit i) := by
  induction i with
  | zero =>
    intro w v
    rw [less_split, Nat.testBit_zero, Nat.testBit_zero, Nat.testBit_zero]
    rw [bit_and (Nat.mod_lt _ (by omega)) (Nat.mod_lt _ (by omega))]
    rcases Nat.mod_two_eq_zero_or_one w with a | a <;> rcases Nat.mod_two_eq_zero_or_one v with b | b <;> rw [a, b] <;> simp <;> omega
  | succ i ih =>
    intro w v
    rw [Nat.testBit_succ, Nat.testBit_succ, Nat.testBit_succ, ← ih]
    congr 1
    rw [less_split w v]
    have h2 : w % 2 &&& v % 2 ≤ w % 2 := Nat.and_le_left
    omega

/-! ### a word of bits -/
def word : List Bool → Nat
  | [] => 0
  | b :: r => b.toNat + 2 * word r
theorem word_lt : ∀ l : List Bool, word l < 2 ^ l.length
  | [] => by decide
  | b :: r => by
    have ih := word_lt r
    have hb : b.toNat ≤ 1 := Bool.toNat_le b
    show b.toNat + 2 * word r < 2 ^ (r.length + 1)
    rw [Nat.pow_succ]
    omega
theorem word_snoc : ∀ (l : List Bool) (b : Bool), word (l ++ [b]) = word l + b.toNat * 2 ^ l.length
  | [], b => by simp [word]
  | c :: r, b => by
    show c.toNat + 2 * word (r ++ [b]) = c.toNat + 2 * word r + b.toNat * 2 ^ (r.length + 1)
    have e : b.toNat * 2 ^ (r.length + 1) = 2 * (b.toNat * 2 ^ r.length) := by
      rw [Nat.pow_succ, ← Nat.mul_assoc, Nat.mul_comm]
    rw [word_snoc r b, e]
    omega
theorem word_bit : ∀ (l : List Bool) (i : Nat), (word l).testBit i = l.getD i false
  | [], i => by simp [word]
  | c :: r, 0 => by
    show (c.toNat + 2 * word r).testBit 0 = c
    rw [Nat.testBit_zero]
    cases c <;> simp
  | c :: r, i + 1 => by
    rw [Nat.testBit_succ]
    have : word (c :: r) / 2 = word r := by
      show (c.toNat + 2 * word r) / 2 = word r
      have := Bool.toNat_le c
      omega
    rw [this, word_bit r i]
    rfl
/-- as the specification says it -/
theorem word_sum (l : List Bool) : word l = ((List.range l.length).map fun i => if l.getD i false = true then 2 ^ i else 0).sum := by
  induction l with
  | nil => rfl
  | cons c r ih =>
    rw [List.length_cons, List.range_succ_eq_map, List.map_cons, List.sum_cons, List.map_map]
    have e : ((fun i => if (c :: r).getD i false = true then 2 ^ i else 0) ∘ Nat.succ) = fun i => 2 * (if r.getD i false = true then 2 ^ i else 0) := by
      funext i
      show (if r.getD i false = true then 2 ^ (i + 1) else 0) = _
      rw [Nat.pow_succ]
      split <;> omega
    rw [e]
    have m2 : ∀ (f : Nat → Nat) (l : List Nat), (l.map fun i => 2 * f i).sum = 2 * (l.map f).sum := by
      intro f l
      induction l with
      | nil => rfl
      | cons a s hs =>
        rw [List.map_cons, List.map_cons, List.sum_cons, List.sum_cons, hs]
        omega
    rw [m2 (fun i => if r.getD i false = true then 2 ^ i else 0), ← ih]
    show c.toNat + 2 * word r = _
    cases c <;> rfl

/-! ### numbers as the request has them -/
def iL (l : List Nat) : List Int := l.map fun (n : Nat) => (n : Int)
theorem iL_sum : ∀ l : List Nat, (iL l).sum = (l.sum : Int)
  | [] => rfl
  | a :: r => by
    show ((a : Int) :: iL r).sum = ((a :: r).sum : Nat)
    rw [List.sum_cons, List.sum_cons, iL_sum r, Int.natCast_add]
/-- a list of ints that are not negative is one of naturals -/
theorem iL_of : ∀ l : List Int, (∀ z ∈ l, 0 ≤ z) → l = iL (l.map Int.toNat)
  | [], _ => rfl
  | a :: r, h => by
    have h0 := h a List.mem_cons_self
    show a :: r = ((a.toNat : Nat) : Int) :: iL (r.map Int.toNat)
    rw [← iL_of r fun z hz => h z (List.mem_cons_of_mem _ hz), Int.toNat_of_nonneg h0]

theorem iL_length (l : List Nat) : (iL l).length = l.length := List.length_map ..
theorem nats_iL : ∀ l : List Nat, Sh60Neutral.nats (iL l) = l
  | [] => rfl
  | a :: r => by
    show ((a : Int).toNat) :: Sh60Neutral.nats (iL r) = a :: r
    rw [nats_iL r, Int.toNat_natCast]
theorem all_iL {b : Nat} : ∀ {l : List Nat}, (iL l).all (fun z => Sh60Neutral.natural z b) = true → ∀ x ∈ l, x < 2 ^ b
  | [], _, x, h => by cases h
  | a :: r, h, x, hx => by
    have h' : (Sh60Neutral.natural (a : Int) b && (iL r).all fun z => Sh60Neutral.natural z b) = true := h
    rw [Bool.and_eq_true] at h'
    rcases List.mem_cons.mp hx with rfl | hx
    · have q := h'.1
      unfold Sh60Neutral.natural at q
      rw [Bool.and_eq_true] at q
      have q2 := of_decide_eq_true q.2
      have e : ((2 : Int) ^ b) = ((2 ^ b : Nat) : Int) := by rw [Int.natCast_pow]; rfl
      rw [e] at q2
      exact Int.ofNat_lt.mp q2
    · exact all_iL h'.2 x hx
theorem natural_nat {z : Int} {b : Nat} (h : Sh60Neutral.natural z b = true) : ∃ n : Nat, z = n ∧ n < 2 ^ b := by
  unfold Sh60Neutral.natural at h
  rw [Bool.and_eq_true] at h
  have h0 := of_decide_eq_true h.1
  have h1 := of_decide_eq_true h.2
  obtain ⟨n, rfl⟩ := Int.eq_ofNat_of_zero_le h0
  have e : ((2 : Int) ^ b) = ((2 ^ b : Nat) : Int) := by rw [Int.natCast_pow]; rfl
  rw [e] at h1
  exact ⟨n, rfl, Int.ofNat_lt.mp h1⟩
theorem nats_of {b : Nat} (l : List Int) (h : l.all (fun z => Sh60Neutral.natural z b) = true) : ∃ xs : List Nat, l = iL xs ∧ ∀ x ∈ xs, x < 2 ^ b := by
  refine ⟨l.map Int.toNat, ?_, ?_⟩
  · refine iL_of l fun z hz => ?_
    obtain ⟨n, rfl, _⟩ := natural_nat (List.all_eq_true.mp h z hz)
    exact Int.natCast_nonneg n
  · intro x hx
    obtain ⟨z, hz, rfl⟩ := List.mem_map.mp hx
    obtain ⟨n, rfl, hn⟩ := natural_nat (List.all_eq_true.mp h z hz)
    exact hn
end Lt
namespace Lt
open Sh60 (num glyph glyphs SIDE starts)

/-! ### rows of one length, one behind the other -/
theorem grid_len {α : Type} (f : Nat → Nat → α) (k : Nat) : ∀ n, ((List.range n).flatMap fun j => (List.range k).map (f j)).length = k * n
  | 0 => rfl
  | n + 1 => by
    rw [List.range_succ, List.flatMap_append, List.length_append, grid_len f k n, List.flatMap_cons, List.flatMap_nil, List.append_nil, List.length_map, List.length_range, Nat.mul_succ]
theorem grid_get {α : Type} (f : Nat → Nat → α) (k : Nat) : ∀ n j i, j < n → i < k → ((List.range n).flatMap fun j => (List.range k).map (f j))[k * j + i]? = some (f j i)
  | 0, j, i, h, _ => by omega
  | n + 1, j, i, h, hi => by
    rw [List.range_succ, List.flatMap_append, List.flatMap_cons, List.flatMap_nil, List.append_nil]
    by_cases e : j < n
    · rw [List.getElem?_append_left, grid_get f k n j i e hi]
      rw [grid_len]
      have : k * (j + 1) ≤ k * n := Nat.mul_le_mul_left k e
      rw [Nat.mul_succ] at this
      omega
    · have e' : j = n := by omega
      subst e'
      rw [List.getElem?_append_right (by rw [grid_len]; omega), grid_len, Nat.add_sub_cancel_left, List.getElem?_map, List.getElem?_range hi]
      rfl
theorem glyph_at (g : List Nat) {j i : Nat} (hj : j < 16) (hi : i < 16) : (glyph g).getD (16 * j + i) false = (num g j).testBit i := by
  have h : (glyph g)[16 * j + i]? = some (num g j / 2 ^ i % 2 == 1) := grid_get (fun j i => num g j / 2 ^ i % 2 == 1) 16 16 j i hj hi
  rw [List.getD_eq_getElem?_getD, h, Option.getD_some, bitOf]
/-- filter's length over such rows -/
theorem count_rows {α : Type} (p : α → Bool) (F : Nat → List α) : ∀ l : List Nat, ((l.flatMap F).filter p).length = (l.map fun j => ((F j).filter p).length).sum
  | [] => rfl
  | a :: r => by
    rw [List.flatMap_cons, List.filter_append, List.length_append, count_rows p F r, List.map_cons, List.sum_cons]
theorem zip_rows {α β : Type} (F : Nat → List α) (G : Nat → List β) (h : ∀ j, (F j).length = (G j).length) : ∀ l : List Nat, (l.flatMap F).zip (l.flatMap G) = l.flatMap fun j => (F j).zip (G j)
  | [] => rfl
  | a :: r => by
    rw [List.flatMap_cons, List.flatMap_cons, List.flatMap_cons, List.zip_append (h a), zip_rows F G h r]
theorem zip_same {α β γ : Type} (f : γ → α) (g : γ → β) : ∀ l : List γ, (l.map f).zip (l.map g) = l.map fun x => (f x, g x)
  | [] => rfl
  | a :: r => by
    rw [List.map_cons, List.map_cons, List.map_cons, List.zip_cons_cons, zip_same f g r]
theorem cnt_map {α : Type} (k : Nat) (f : Nat → α) (p : α → Bool) : (((List.range k).map f).filter p).length = cnt k fun i => p (f i) := by
  rw [List.filter_map, List.length_map]
  rfl

/-! ### lt_apart -/
theorem apart_is (a b : List Nat) (ha : ∀ j, j < 16 → num a j < 65536) (hb : ∀ j, j < 16 → num b j < 65536) :
    Sh60.apart (glyph a) (glyph b) = ((List.range 16).map fun j => pop (num a j ^^^ num b j)).sum := by
  unfold Sh60.apart glyph
  rw [zip_rows _ _ (fun j => by rw [List.length_map, List.length_map]), count_rows]
  refine congrArg List.sum (List.map_congr_left fun j hj => ?_)
  have hj' : j < 16 := List.mem_range.mp hj
  rw [zip_same, cnt_map, pop_cnt 16 _ (Nat.xor_lt_two_pow (ha j hj') (hb j hj'))]
  refine cnt_congr fun i _ => ?_
  rw [bitOf, bitOf, Nat.testBit_xor]

/-! ### lt_crossings -/
def runs (w : Nat) : Nat := pop (w - (w &&& (2 * w)))
theorem starts_is (l : List Bool) : starts l = runs (word l) := by
  unfold starts runs
  rw [pop_cnt l.length _ (Nat.lt_of_le_of_lt (Nat.sub_le _ _) (word_lt l))]
  show cnt l.length _ = _
  refine cnt_congr fun i _ => ?_
  rw [testBit_less, word_bit]
  refine congrArg (l.getD i false && ·) ?_
  cases i with
  | zero =>
    rw [Nat.testBit_zero, Nat.mul_mod_right]
    rfl
  | succ i =>
    rw [Nat.testBit_succ, Nat.mul_div_cancel_left _ (by omega), word_bit]
    rfl
theorem word_of_bits {n k : Nat} (h : n < 2 ^ k) : word ((List.range k).map n.testBit) = n := by
  refine Nat.eq_of_testBit_eq fun i => ?_
  rw [word_bit, List.getD_eq_getElem?_getD, List.getElem?_map]
  by_cases hi : i < k
  · rw [List.getElem?_range hi]
    rfl
  · rw [List.getElem?_eq_none (by rw [List.length_range]; omega)]
    exact (Nat.testBit_lt_two_pow (Nat.lt_of_lt_of_le h (Nat.pow_le_pow_right (by omega) (by omega)))).symm
/-- the columns' words -/
def column (g : List Nat) (i : Nat) : Nat := word (g.map fun r => r.testBit i)
theorem map_num {α : Type} (f : Nat → α) (g : List Nat) (h : g.length = 16) : (List.range 16).map (fun j => f (num g j)) = g.map f := by
  refine List.ext_getElem? fun j => ?_
  rw [List.getElem?_map, List.getElem?_map]
  by_cases hj : j < 16
  · rw [List.getElem?_range hj, List.getElem?_eq_getElem (show j < g.length by omega)]
    show some (f (g.getD j 0)) = _
    rw [List.getD_eq_getElem?_getD, List.getElem?_eq_getElem (show j < g.length by omega)]
    rfl
  · rw [List.getElem?_eq_none (by rw [List.length_range]; omega), List.getElem?_eq_none (show g.length ≤ j by omega)]
    rfl
theorem crossings_is (g : List Nat) (hl : g.length = 16) (hg : ∀ x ∈ g, x < 65536) :
    Sh60.crossings (glyph g) = (g ++ (List.range 16).map (column g)).map runs := by
  unfold Sh60.crossings
  rw [List.map_append, List.map_map]
  refine congr (congrArg HAppend.hAppend ?_) ?_
  · rw [← map_num runs g hl]
    refine List.map_congr_left fun j hj => ?_
    have hj' : j < 16 := List.mem_range.mp hj
    rw [starts_is]
    refine congrArg runs ?_
    have hn : num g j < 2 ^ 16 := by
      unfold num
      rw [List.getD_eq_getElem?_getD, List.getElem?_eq_getElem (show j < g.length by omega)]
      exact hg _ (List.getElem_mem _)
    refine Eq.trans ?_ (word_of_bits hn)
    refine congrArg word (List.map_congr_left fun i hi => ?_)
    exact glyph_at g hj' (List.mem_range.mp hi)
  · refine List.map_congr_left fun i hi => ?_
    have hi' : i < 16 := List.mem_range.mp hi
    rw [starts_is]
    show runs _ = runs (column g i)
    unfold column
    rw [← map_num (fun r => r.testBit i) g hl]
    refine congrArg runs (congrArg word (List.map_congr_left fun j hj => ?_))
    exact glyph_at g (List.mem_range.mp hj) hi'

/-! ### what is due of lt_apart -/
def far (xs ys : List Nat) : Nat := ((xs.zip ys).map fun p => pop (p.1 ^^^ p.2)).sum
def letter (xs : List Nat) (k : Nat) : List Nat := (xs.drop (16 * k)).take 16
theorem num_lt {l : List Nat} {B : Nat} (h : ∀ x ∈ l, x < B) {j : Nat} (hj : j < l.length) : num l j < B := by
  unfold num
  rw [List.getD_eq_getElem?_getD, List.getElem?_eq_getElem hj]
  exact h _ (List.getElem_mem _)
theorem apart_far (L ys : List Nat) (hL : L.length = 16) (hy : ys.length = 16) (bL : ∀ x ∈ L, x < 65536) (bY : ∀ x ∈ ys, x < 65536) : Sh60.apart (glyph ys) (glyph L) = far L ys := by
  rw [apart_is ys L (fun j hj => num_lt bY (by omega)) (fun j hj => num_lt bL (by omega))]
  unfold far
  refine congrArg List.sum (List.ext_getElem? fun j => ?_)
  rw [List.getElem?_map, List.getElem?_map]
  by_cases hj : j < 16
  · have e : (L.zip ys)[j]? = some (L[j]'(by omega), ys[j]'(by omega)) := List.getElem?_zip_eq_some.mpr ⟨List.getElem?_eq_getElem _, List.getElem?_eq_getElem _⟩
    rw [List.getElem?_range hj, e]
    show some (pop (ys.getD j 0 ^^^ L.getD j 0)) = _
    rw [List.getD_eq_getElem?_getD, List.getD_eq_getElem?_getD, List.getElem?_eq_getElem (show j < L.length by omega), List.getElem?_eq_getElem (show j < ys.length by omega)]
    show some (pop (ys[j] ^^^ L[j])) = some (pop (L[j] ^^^ ys[j]))
    rw [Nat.xor_comm]
  · rw [List.getElem?_eq_none (by rw [List.length_range]; omega), List.getElem?_eq_none (by rw [List.length_zip]; omega)]
    rfl
theorem letter_len {xs : List Nat} {n k : Nat} (h : xs.length = 16 * n) (hk : k < n) : (letter xs k).length = 16 := by
  unfold letter
  rw [List.length_take, List.length_drop]
  omega
theorem letter_mem {xs : List Nat} {k x : Nat} (h : x ∈ letter xs k) : x ∈ xs := List.mem_of_mem_drop (List.mem_of_mem_take h)
theorem some_is (n : Nat) : Sh60.some_ n = (decide (1 ≤ n) && decide (n ≤ 256)) := rfl
theorem due_apart (font a : List Int) (h : PySh60.lt_apart_asked font a = true) : ∃ (xs ys : List Nat) (n : Nat), font = iL xs ∧ a = iL ys ∧ xs.length = 16 * n ∧ ys.length ≤ 16 ∧
    PySh60.lt_apart font a = if Sh60.some_ n = true then 0 :: iL ((List.range n).map fun k => far (letter xs k) ys) else [-2] := by
  have h1 : Sh60Neutral.asked1 [[3], font, a] = true := (Bool.and_eq_true _ _ ▸ (show (Sh60Neutral.asked1 [[3], font, a] && _) = true from h)).1
  have h2 : (font.all (fun z => Sh60Neutral.natural z 16) && (a.all (fun z => Sh60Neutral.natural z 16) && (if Sh60.some_ ((Sh60Neutral.nats font).length / 16) = true then font.length == (16 * ((Sh60Neutral.nats font).length / 16)) && a.length == 16 else (font.isEmpty && a.isEmpty) || (font.length == (16 * ((Sh60Neutral.nats font).length / 16)) && a.length == 16)))) = true := h1
  rw [Bool.and_eq_true, Bool.and_eq_true] at h2
  obtain ⟨b1, b2, b3⟩ := h2
  obtain ⟨xs, rfl, hx⟩ := nats_of font b1
  obtain ⟨ys, rfl, hy⟩ := nats_of a b2
  rw [nats_iL, iL_length, iL_length] at b3
  have due : PySh60.lt_apart (iL xs) (iL ys) = Sh60Neutral.told (Sh60.answer (if Sh60.some_ ((Sh60Neutral.nats (iL xs)).length / 16) = true then .apart (Sh60Neutral.nats (iL xs)) (Sh60Neutral.nats (iL ys)) else .bad)) := rfl
  rw [nats_iL, nats_iL] at due
  refine ⟨xs, ys, xs.length / 16, rfl, rfl, ?_, ?_, ?_⟩
  · split at b3
    · simp only [Bool.and_eq_true, beq_iff_eq] at b3
      omega
    · simp only [Bool.or_eq_true, Bool.and_eq_true, beq_iff_eq] at b3
      rcases b3 with ⟨z, _⟩ | ⟨z, _⟩
      · have : xs = [] := by
          cases xs with
          | nil => rfl
          | cons c r => cases z
        subst this
        rfl
      · omega
  · split at b3
    · simp only [Bool.and_eq_true, beq_iff_eq] at b3
      omega
    · simp only [Bool.or_eq_true, Bool.and_eq_true, beq_iff_eq] at b3
      rcases b3 with ⟨_, z⟩ | ⟨_, z⟩
      · have : ys = [] := by
          cases ys with
          | nil => rfl
          | cons c r => cases z
        subst this
        exact Nat.zero_le _
      · omega
  · rw [due]
    by_cases c : Sh60.some_ (xs.length / 16) = true
    · rw [if_pos c, if_pos c]
      rw [if_pos c] at b3
      simp only [Bool.and_eq_true, beq_iff_eq] at b3
      show (0 : Int) :: iL ((glyphs xs).map (Sh60.apart (glyph ys))) = _
      refine congrArg (fun l => (0 : Int) :: iL l) ?_
      unfold Sh60.glyphs
      rw [List.map_map]
      refine List.map_congr_left fun k hk => ?_
      have hk' : k < xs.length / 16 := List.mem_range.mp hk
      exact apart_far (letter xs k) ys (letter_len b3.1 hk') b3.2 (fun x hx' => hx x (letter_mem hx')) hy
    · rw [if_neg c, if_neg c]
      rfl

/-! ### what is due of lt_crossings -/
theorem due_crossings (a : List Int) (h : PySh60.lt_crossings_asked a = true) : ∃ xs : List Nat, a = iL xs ∧ xs.length = 16 ∧ (∀ x ∈ xs, x < 65536) ∧
    PySh60.lt_crossings a = 0 :: iL ((xs ++ (List.range 16).map (column xs)).map runs) := by
  have h1 : Sh60Neutral.asked1 [[2], a] = true := (Bool.and_eq_true _ _ ▸ (show (Sh60Neutral.asked1 [[2], a] && _) = true from h)).1
  have h2 : (a.all (fun z => Sh60Neutral.natural z 16) && (a.length == 16)) = true := h1
  rw [Bool.and_eq_true] at h2
  obtain ⟨xs, rfl, hx⟩ := nats_of a h2.1
  have hl : xs.length = 16 := by
    have := h2.2
    rw [iL_length, beq_iff_eq] at this
    exact this
  refine ⟨xs, rfl, hl, hx, ?_⟩
  rw [← crossings_is xs hl hx]
  show (0 : Int) :: iL (Sh60.crossings (glyph (Sh60Neutral.nats (iL xs)))) = _
  rw [nats_iL]
end Lt
set_option linter.all false
set_option maxRecDepth 100000
set_option maxHeartbeats 4000000
namespace Lt
open PySem PySem.Spec PyProof.Rows L2

/-! ### lists of numbers as values -/
abbrev nV (n : Nat) : V := .int (n : Int)
theorem nV_iL (l : List Nat) : l.map nV = (iL l).map V.int := by
  unfold iL
  rw [List.map_map]
  rfl
/-! ### heaps -/
theorem same_upd {H : Hp} {p : Addr} {o : HO} (h : H p = none) : Same H (upd H p o) := fun b x e => by
  rw [upd_ne (ne_of_none e h)]
  exact e
/-- a store to p, which was not there at the start -/
theorem Same.put {H H' : Hp} {p : Addr} {o : HO} (s : Same H H') (h : H p = none) : Same H (upd H' p o) := fun b x e => by
  rw [upd_ne (ne_of_none e h)]
  exact s b x e
/-- all but B stands -/
def Keep (B : Addr) (H H' : Hp) : Prop := ∀ b o, b ≠ B → H b = some o → H' b = some o
theorem Keep.of {B : Addr} {H H' : Hp} (s : Same H H') : Keep B H H' := fun b o _ e => s b o e
theorem Keep.trans {B : Addr} {H H1 H2 : Hp} (a : Keep B H H1) (b : Keep B H1 H2) : Keep B H H2 := fun c o h e => b c o h (a c o h e)
theorem Keep.put {B : Addr} {H H' : Hp} {o : HO} (s : Keep B H H') : Keep B H (upd H' B o) := fun b x h e => by
  rw [upd_ne h]
  exact s b x h e
theorem Same.keep {B : Addr} {H H1 H2 : Hp} (a : Same H H1) (hB : H B = none) (b : Keep B H1 H2) : Same H H2 := fun c o e => b c o (ne_of_none e hB) (a c o e)

/-! ### list + list, wherever both are to be read -/
def rCatS (K : PySem.W.Frag) : R2 := fun x y H Q => ∃ l b xs zs, x = .ref l ∧ y = .ref b ∧ SqL K H l xs ∧ SqL K H b zs ∧ xs.length + zs.length ≤ sizeLine ∧ ∀ p, H p = none → Q (.ref p) (upd H p (.lst (xs ++ zs)))
theorem op_catS {X : Cx} : OpR X (binaryOp .Add) (rCatS X.K) := by
  intro pn st sl Hp1 x y v u Qv Inv1 rx ry hyp
  obtain ⟨p1, p2, ls1, ls2, rfl, rfl, in1, in2, room, goes⟩ := hyp
  cases rx
  cases ry
  obtain ⟨vs1, val1, ⟨⟨cls, dd, data, slots1⟩, n1, get1, hc, hd, hs⟩, _⟩ := Inv1.list in1
  obtain ⟨vs2, val2, ⟨⟨cls2, dd2, data2, slots2⟩, n2, get2, hc2, hd2, hs2⟩, _⟩ := Inv1.list in2
  simp only at hc hd hs hc2 hd2 hs2
  subst hc hd hs hc2 hd2 hs2
  have len1 := val1.length
  have len2 := val2.length
  refine concat_meets ⟨_, get1, rfl⟩ ⟨_, get2, rfl⟩ noFill_list_add seq_list_add PySem.F.slot_list_add PySem.F.entry_list_add (PySem.F.args_list_add_2 _ _)
    (list_addW p1 p2 vs1.toArray vs2.toArray n1 n2 none none slots1 slots2 (by rw [List.size_toArray, List.size_toArray]; omega)) ⟨get1, get2, ?_⟩
  have glued : vs1.toArray ++ vs2.toArray = (vs1 ++ vs2).toArray := by simp
  rw [glued]
  refine ⟨.ref _, _, Inv1.lnew (t' := st.toks) (val1.append val2) ?_, rfl, goes _ Inv1.fresh⟩
  rw [List.length_append]
  omega

/-! ### range(0, c n, c) -/
theorem rgN (c n : Nat) (hc : 0 < c) (hc2 : c ≤ 64) (h : n ≤ 1000) : RgC 0 ((c * n : Nat) : Int) (c : Int) n := by
  have hb : c * n ≤ 64 * 1000 := Nat.mul_le_mul hc2 h
  have e : Builtin.Range.rangeSize 0 ((c * n : Nat) : Int) (c : Int) = n := by
    unfold Builtin.Range.rangeSize
    rw [if_pos (by omega)]
    cases n with
    | zero =>
      rw [Nat.mul_zero, if_neg (by omega)]
      rfl
    | succ m =>
      rw [Nat.mul_succ, if_pos (by omega), show (((c * m + c : Nat) : Int) - 0 - 1) = ((c * m + (c - 1) : Nat) : Int) by omega, ← Int.natCast_ediv, Nat.mul_add_div hc, Nat.div_eq_of_lt (by omega)]
      omega
  refine ⟨by omega, by omega, ?_, e⟩
  unfold Builtin.Range.small
  rw [e]
  generalize c * n = z at *
  have fit : ∀ i : Int, 0 ≤ i → i < 100000 → Builtin.Range.rangeFitsLong i = true := fun i h0 h1 => by
    have p : (100000 : Int) ≤ 2 ^ 63 := by decide
    have p0 : (0 : Int) ≤ 2 ^ 63 := by decide
    unfold Builtin.Range.rangeFitsLong
    generalize (2 : Int) ^ 63 = z at *
    rw [decide_eq_true (show -z ≤ i by omega), decide_eq_true (show i < z by omega)]
    rfl
  rw [fit 0 (by omega) (by omega), fit _ (show 0 ≤ (z : Int) by omega) (by omega), fit c (by omega) (by omega), fit n (by omega) (by omega), if_pos (by omega), fit _ (show 0 ≤ (z : Int) + ((c : Int) - 1) by omega) (by omega), Bool.or_true]
  rfl
theorem and_nat (a b : Nat) : Builtin.bitAnd (a : Int) (b : Int) = ((a &&& b : Nat) : Int) := by
  have ha := Int.natCast_nonneg a
  rw [bitAnd_pp ha (Int.natCast_nonneg b), Int.toNat_natCast, Int.toNat_natCast]
theorem xor_nat (a b : Nat) : Builtin.bitXor (a : Int) (b : Int) = ((a ^^^ b : Nat) : Int) := by
  rw [Bits.bitXor_pp (Int.natCast_nonneg a) (Int.natCast_nonneg b), Int.toNat_natCast, Int.toNat_natCast]
/-- number & number - 1 -/
theorem clear_int (m : Nat) (h : 0 < m) : Builtin.bitAnd (m : Int) ((m : Int) - 1) = ((m &&& (m - 1) : Nat) : Int) := by
  rw [show ((m : Int) - 1) = ((m - 1 : Nat) : Int) by omega, and_nat]
/-- an item of a mapped list -/
theorem map_at {α β : Type} {f : α → β} {l : List α} {i : Nat} {y : β} (h : (l.map f)[i]? = some y) : ∃ x, l[i]? = some x ∧ y = f x := by
  rw [List.getElem?_map] at h
  cases e : l[i]? with
  | none =>
    rw [e] at h
    cases h
  | some x =>
    rw [e] at h
    exact ⟨x, rfl, (Option.some.inj h).symm⟩
theorem take_snoc {α : Type} {l : List α} {i : Nat} {x : α} (h : l[i]? = some x) : l.take (i + 1) = l.take i ++ [x] := by
  rw [List.take_add_one, h]
  rfl
theorem range_take {n i : Nat} (h : i ≤ n) : (List.range n).take i = List.range i := by
  rw [List.take_range, Nat.min_eq_left h]
/-- a comprehension without a test: its item is made -/
theorem yes {σ : L2.St} {H : Hp} {A B : Bool → Hp → Prop} (h : A true H) : tYes σ H fun b H3 => if b = true then A b H3 else B b H3 := by
  show if true = true then A true H else B true H
  rw [if_pos rfl]
  exact h
theorem smallL {n : Nat} (h : n ≤ 70000) : n < sizeLine := Nat.lt_of_le_of_lt h (by decide)
theorem smallE {n : Nat} (h : n ≤ 70000) : n ≤ sizeLine := Nat.le_of_lt (smallL h)

/-! ### bits -/
abbrev bV (b : Bool) : V := .int (b.toNat : Int)
theorem or_word (bs : List Bool) (i : Nat) (b : Bool) (h : bs[i]? = some b) : Builtin.bitOr ((word (bs.take i) : Nat) : Int) ((b.toNat : Int) * 2 ^ ((i : Nat) : Int).toNat) = ((word (bs.take (i + 1)) : Nat) : Int) := by
  have hl : (bs.take i).length = i := by
    rw [List.length_take]
    have := (List.getElem?_eq_some_iff.mp h).1
    omega
  have w := word_lt (bs.take i)
  rw [hl] at w
  rw [Int.toNat_natCast, Bits.bitOr_join (Int.natCast_nonneg _) (by
    rw [show ((2 : Int) ^ i) = ((2 ^ i : Nat) : Int) by rw [Int.natCast_pow]; rfl]
    exact Int.ofNat_lt.mpr w) (Int.natCast_nonneg _), take_snoc h, word_snoc, hl, Int.natCast_add, Int.natCast_mul, Int.natCast_pow]
  rfl
/-- n & ~(n << 1) -/
theorem less_int (n : Nat) : Builtin.bitAnd (n : Int) (Builtin.bitNot ((n : Int) * 2 ^ (1 : Int).toNat)) = ((n - (n &&& (2 * n)) : Nat) : Int) := by
  have e : (n : Int) * 2 ^ (1 : Int).toNat = ((2 * n : Nat) : Int) := by
    show (n : Int) * 2 = _
    omega
  rw [e]
  have h1 : decide ((0 : Int) ≤ (n : Int)) = true := decide_eq_true (Int.natCast_nonneg n)
  have h2 : decide ((0 : Int) ≤ Builtin.bitNot ((2 * n : Nat) : Int)) = false := decide_eq_false (by
    unfold Builtin.bitNot
    omega)
  have h3 : Builtin.bitNot (Builtin.bitNot ((2 * n : Nat) : Int)) = ((2 * n : Nat) : Int) := by
    unfold Builtin.bitNot
    omega
  unfold Builtin.bitAnd
  rw [h1, h2]
  show (n : Int) - ((((n : Int)).toNat &&& (Builtin.bitNot (Builtin.bitNot ((2 * n : Nat) : Int))).toNat : Nat) : Int) = _
  rw [h3, Int.toNat_natCast, Int.toNat_natCast]
  have : n &&& (2 * n) ≤ n := Nat.and_le_left
  omega
theorem bit_int (r i : Nat) : Builtin.bitAnd ((r : Int) / 2 ^ i) 1 = ((r.testBit i).toNat : Int) := by
  rw [bitAnd_m1, Nat.toNat_testBit, Int.natCast_emod, Int.natCast_ediv, Int.natCast_pow]
  rfl
/-! ### a slice -/
theorem cut_nat {xs : List V} {a b : Nat} {x y : Int} (ex : x = a) (ey : y = b) (hab : a ≤ b) (hb : b ≤ xs.length) : cutV xs (some x) (some y) = (xs.drop a).take (b - a) := by
  subst ex ey
  unfold cutV
  rw [HT.sIx_nat, HT.sIx_nat, Nat.min_eq_left hb, Nat.min_eq_left (by omega)]
end Lt
namespace Lt
open Sh60 (page wide dot many inPart part from_ upTo fitted greys rowsOf SIDE)

/-! ### a row of a page as one number -/
def rowN (x : List Nat) (s : Nat) : Nat → Nat
  | 0 => 0
  | n + 1 => rowN x s n + x.getD (s + n) 0 * 2 ^ (32 * n)
theorem getD_lt {x : List Nat} {B : Nat} (hB : 0 < B) (hx : ∀ v ∈ x, v < B) (i : Nat) : x.getD i 0 < B := by
  rw [List.getD_eq_getElem?_getD]
  by_cases h : i < x.length
  · rw [List.getElem?_eq_getElem h]
    exact hx _ (List.getElem_mem _)
  · rw [List.getElem?_eq_none (by omega)]
    exact hB
theorem rowN_lt {x : List Nat} {s : Nat} (hx : ∀ v ∈ x, v < 2 ^ 32) : ∀ n, rowN x s n < 2 ^ (32 * n)
  | 0 => Nat.two_pow_pos _
  | n + 1 => by
    have ih := rowN_lt (s := s) hx n
    have h1 : x.getD (s + n) 0 + 1 ≤ 2 ^ 32 := getD_lt (by decide) hx _
    have h2 := Nat.mul_le_mul_right (2 ^ (32 * n)) h1
    rw [Nat.add_mul, Nat.one_mul, ← Nat.pow_add, show 32 + 32 * n = 32 * (n + 1) by omega] at h2
    show rowN x s n + x.getD (s + n) 0 * 2 ^ (32 * n) < _
    omega
theorem rowN_bit {x : List Nat} {s : Nat} (hx : ∀ v ∈ x, v < 2 ^ 32) : ∀ n c, c < 32 * n → (rowN x s n).testBit c = (x.getD (s + c / 32) 0).testBit (c % 32)
  | 0, c, h => by omega
  | n + 1, c, h => by
    show (rowN x s n + x.getD (s + n) 0 * 2 ^ (32 * n)).testBit c = _
    rw [Nat.add_comm, Nat.mul_comm, Nat.testBit_two_pow_mul_add _ (rowN_lt hx n)]
    by_cases e : c < 32 * n
    · rw [if_pos e, rowN_bit hx n c e]
    · rw [if_neg e, show c / 32 = n by omega, show c % 32 = c - 32 * n by omega]

/-! ### a part of a page -/
def dotsIn (R : Nat → Nat) (a b c d : Nat) : Nat := ((List.range (d - b)).map fun r => pop (R (b + r) / 2 ^ a % 2 ^ (c - a))).sum
theorem arr_getD {α : Type} (l : List α) (i : Nat) (d : α) : l.toArray.getD i d = l.getD i d := by
  rw [List.getD_eq_getElem?_getD, Array.getD_eq_getD_getElem?, List.getElem?_toArray]
theorem page_at {w h : Nat} {x : List Nat} {r c : Nat} (hr : r < h) (hc : c < w) :
    (page w h x).toArray.getD (r * w + c) false = (x.getD (r * wide w + c / 32) 0).testBit (c % 32) := by
  have e : (page w h x)[w * r + c]? = some (x.toArray.getD (r * wide w + c / 32) 0 / 2 ^ (c % 32) % 2 == 1) :=
    grid_get (fun r c => x.toArray.getD (r * wide w + c / 32) 0 / 2 ^ (c % 32) % 2 == 1) w h r c hr hc
  rw [arr_getD, List.getD_eq_getElem?_getD, Nat.mul_comm r w, e, Option.getD_some, arr_getD, bitOf]
theorem dot_is {w h : Nat} {x : List Nat} (hx : ∀ v ∈ x, v < 2 ^ 32) {r c : Nat} (hr : r < h) (hc : c < w) :
    dot w h (page w h x).toArray c r = (rowN x (r * wide w) (wide w)).testBit c := by
  unfold dot
  rw [decide_eq_true hc, decide_eq_true hr, Bool.true_and, Bool.true_and, page_at hr hc, rowN_bit hx]
  unfold wide
  omega
theorem mod_bits (n a k i : Nat) (h : i < k) : (n / 2 ^ a % 2 ^ k).testBit i = n.testBit (a + i) := by
  rw [Nat.testBit_mod_two_pow, decide_eq_true h, Bool.true_and, Nat.testBit_div_two_pow, Nat.add_comm]
theorem inPart_is {w h : Nat} {x : List Nat} (hx : ∀ v ∈ x, v < 2 ^ 32) {a b c d : Nat} (hc : c ≤ w) (hd : d ≤ h) :
    inPart w h (page w h x).toArray a b c d = (dotsIn (fun r => rowN x (r * wide w) (wide w)) a b c d, (c - a) * (d - b)) := by
  unfold inPart many dotsIn
  rw [count_rows]
  refine congrArg (·, (c - a) * (d - b)) (congrArg List.sum (List.map_congr_left fun r hr => ?_))
  have hr' : r < d - b := List.mem_range.mp hr
  rw [cnt_map, pop_cnt (c - a) _ (Nat.mod_lt _ (Nat.two_pow_pos _))]
  refine cnt_congr fun i hi => ?_
  rw [mod_bits _ _ _ _ hi, dot_is hx (by omega) (by omega)]
theorem from_lt {w k i : Nat} (hw : 0 < w) (hi : i < k) : from_ w k i < w := by
  unfold from_
  rw [Nat.div_lt_iff_lt_mul (by omega)]
  rw [Nat.mul_comm w k]
  exact Nat.mul_lt_mul_of_pos_right hi hw
theorem upTo_le {w k i : Nat} (hw : 0 < w) (hi : i < k) : upTo w k i ≤ w := by
  unfold upTo
  refine Nat.max_le.mpr ⟨from_lt hw hi, ?_⟩
  refine Nat.le_trans (Nat.div_le_div_right (Nat.mul_le_mul_right w (show i + 1 ≤ k from hi))) ?_
  rw [Nat.mul_div_cancel_left _ (by omega)]
  exact Nat.le_refl _
theorem from_lt_upTo (w k i : Nat) : from_ w k i < upTo w k i := by
  unfold upTo
  exact Nat.lt_of_lt_of_le (Nat.lt_succ_self _) (Nat.le_max_left _ _)
/-- the box in row j of boxes, column i: its dots, its places (as the program counts them) -/
def box (w h k : Nat) (x : List Nat) (j i : Nat) : Nat × Nat :=
  (dotsIn (fun r => rowN x (r * wide w) (wide w)) (from_ w k i) (from_ h k j) (upTo w k i) (upTo h k j), (upTo h k j - from_ h k j) * (upTo w k i - from_ w k i))
theorem part_is {w h k : Nat} {x : List Nat} (hw : 0 < w) (hh : 0 < h) (hx : ∀ v ∈ x, v < 2 ^ 32) {i j : Nat} (hi : i < k) (hj : j < k) :
    part w h k (page w h x).toArray i j = box w h k x j i := by
  unfold part
  rw [inPart_is hx (upTo_le hw hi) (upTo_le hh hj), Nat.mul_comm]
  rfl
/-- dots are places at most; places are many enough -/
theorem cnt_pop_le {n k : Nat} : pop (n % 2 ^ k) ≤ k := by
  rw [pop_cnt k _ (Nat.mod_lt _ (Nat.two_pow_pos _))]
  exact cnt_le _ _
theorem fit_is {w h : Nat} {x : List Nat} (hw : 0 < w) (hh : 0 < h) (hx : ∀ v ∈ x, v < 2 ^ 32) :
    rowsOf (fitted w h (page w h x)) = (List.range 16).map fun j => word ((List.range 16).map fun i => decide ((box w h 16 x j i).2 ≤ 2 * (box w h 16 x j i).1)) := by
  unfold rowsOf
  refine List.map_congr_left fun j hj => ?_
  have hj' : j < 16 := List.mem_range.mp hj
  rw [word_sum, List.length_map, List.length_range]
  refine congrArg List.sum (List.map_congr_left fun i hi => ?_)
  have hi' : i < 16 := List.mem_range.mp hi
  have e : (fitted w h (page w h x))[16 * j + i]? = some (decide ((part w h 16 (page w h x).toArray i j).2 ≤ 2 * (part w h 16 (page w h x).toArray i j).1)) :=
    grid_get (fun j i => decide ((part w h 16 (page w h x).toArray i j).2 ≤ 2 * (part w h 16 (page w h x).toArray i j).1)) 16 16 j i hj' hi'
  have e1 : (fitted w h (page w h x)).getD (16 * j + i) false = decide ((box w h 16 x j i).2 ≤ 2 * (box w h 16 x j i).1) := by
    rw [List.getD_eq_getElem?_getD, e, Option.getD_some, part_is hw hh hx hi' hj']
  have e2 : ((List.range 16).map fun i => decide ((box w h 16 x j i).2 ≤ 2 * (box w h 16 x j i).1)).getD i false = decide ((box w h 16 x j i).2 ≤ 2 * (box w h 16 x j i).1) := by
    rw [List.getD_eq_getElem?_getD, List.getElem?_map, List.getElem?_range hi']
    rfl
  show (if (fitted w h (page w h x)).getD (16 * j + i) false = true then 2 ^ i else 0) = _
  rw [e1, e2]
theorem greys_is {w h : Nat} {x : List Nat} (hw : 0 < w) (hh : 0 < h) (hx : ∀ v ∈ x, v < 2 ^ 32) :
    greys w h (page w h x) = (List.range 8).flatMap fun j => (List.range 8).map fun i => (510 * (box w h 8 x j i).1 + (box w h 8 x j i).2) / (2 * (box w h 8 x j i).2) := by
  unfold greys
  show (List.range 8).flatMap _ = _
  have c : ∀ (l : List Nat) (F G : Nat → List Nat), (∀ j ∈ l, F j = G j) → l.flatMap F = l.flatMap G := by
    intro l F G
    induction l with
    | nil => intro _; rfl
    | cons a r ih =>
      intro h
      rw [List.flatMap_cons, List.flatMap_cons, h a List.mem_cons_self, ih fun j hj => h j (List.mem_cons_of_mem _ hj)]
  refine c _ _ _ fun j hj => List.map_congr_left fun i hi => ?_
  show (510 * (part w h 8 (page w h x).toArray i j).1 + (part w h 8 (page w h x).toArray i j).2) / (2 * (part w h 8 (page w h x).toArray i j).2) = _
  rw [part_is hw hh hx (List.mem_range.mp hi) (List.mem_range.mp hj)]

/-! ### what is due of lt_fit, lt_greys -/
theorem asked_page {w h : Int} {x : List Int} (hq : (Sh60Neutral.natural w 32 && (Sh60Neutral.natural h 32 && (x.all (fun z => Sh60Neutral.natural z 32) && (if Sh60.sized w.toNat h.toNat = true then x.length == h.toNat * ((w.toNat + 31) / 32) else x.isEmpty || (x.length == h.toNat * ((w.toNat + 31) / 32)))))) = true) :
    ∃ (m n : Nat) (xs : List Nat), w = m ∧ h = n ∧ x = iL xs ∧ (∀ v ∈ xs, v < 2 ^ 32) ∧ (Sh60.sized m n = true → xs.length = n * wide m) := by
  rw [Bool.and_eq_true, Bool.and_eq_true, Bool.and_eq_true] at hq
  obtain ⟨q1, q2, q3, q4⟩ := hq
  obtain ⟨m, rfl, _⟩ := natural_nat q1
  obtain ⟨n, rfl, _⟩ := natural_nat q2
  obtain ⟨xs, rfl, hx⟩ := nats_of x q3
  refine ⟨m, n, xs, rfl, rfl, rfl, hx, fun c => ?_⟩
  rw [Int.toNat_natCast, Int.toNat_natCast, if_pos c, iL_length, beq_iff_eq] at q4
  exact q4
theorem sized_pos {m n : Nat} (c : Sh60.sized m n = true) : 0 < m ∧ 0 < n := by
  unfold Sh60.sized Sh60.among at c
  rw [Bool.and_eq_true, Bool.and_eq_true, Bool.and_eq_true] at c
  exact ⟨of_decide_eq_true c.1.1, of_decide_eq_true c.2.1⟩
theorem due_fit (w h : Int) (x : List Int) (hq : PySh60.lt_fit_asked w h x = true) : ∃ (m n : Nat) (xs : List Nat), w = m ∧ h = n ∧ x = iL xs ∧ (∀ v ∈ xs, v < 2 ^ 32) ∧ (Sh60.sized m n = true → xs.length = n * wide m) ∧
    PySh60.lt_fit w h x = if Sh60.sized m n = true then 0 :: iL ((List.range 16).map fun j => word ((List.range 16).map fun i => decide ((box m n 16 xs j i).2 ≤ 2 * (box m n 16 xs j i).1))) else [-2] := by
  have h1 : Sh60Neutral.asked1 [[0, w, h], x] = true := (Bool.and_eq_true _ _ ▸ (show (Sh60Neutral.asked1 [[0, w, h], x] && _) = true from hq)).1
  obtain ⟨m, n, xs, rfl, rfl, rfl, hx, hl⟩ := asked_page h1
  refine ⟨m, n, xs, rfl, rfl, rfl, hx, hl, ?_⟩
  have due : PySh60.lt_fit (m : Int) (n : Int) (iL xs) = Sh60Neutral.told (Sh60.answer (if Sh60.sized m n = true then .fit m n (Sh60Neutral.nats (iL xs)) else .bad)) := rfl
  rw [nats_iL] at due
  rw [due]
  by_cases c : Sh60.sized m n = true
  · rw [if_pos c, if_pos c, ← fit_is (sized_pos c).1 (sized_pos c).2 hx]
    rfl
  · rw [if_neg c, if_neg c]
    rfl
theorem due_greys (w h : Int) (x : List Int) (hq : PySh60.lt_greys_asked w h x = true) : ∃ (m n : Nat) (xs : List Nat), w = m ∧ h = n ∧ x = iL xs ∧ (∀ v ∈ xs, v < 2 ^ 32) ∧ (Sh60.sized m n = true → xs.length = n * wide m) ∧
    PySh60.lt_greys w h x = if Sh60.sized m n = true then 0 :: iL ((List.range 8).flatMap fun j => (List.range 8).map fun i => (510 * (box m n 8 xs j i).1 + (box m n 8 xs j i).2) / (2 * (box m n 8 xs j i).2)) else [-2] := by
  have h1 : Sh60Neutral.asked1 [[1, w, h], x] = true := (Bool.and_eq_true _ _ ▸ (show (Sh60Neutral.asked1 [[1, w, h], x] && _) = true from hq)).1
  obtain ⟨m, n, xs, rfl, rfl, rfl, hx, hl⟩ := asked_page h1
  refine ⟨m, n, xs, rfl, rfl, rfl, hx, hl, ?_⟩
  have due : PySh60.lt_greys (m : Int) (n : Int) (iL xs) = Sh60Neutral.told (Sh60.answer (if Sh60.sized m n = true then .greys m n (Sh60Neutral.nats (iL xs)) else .bad)) := rfl
  rw [nats_iL] at due
  rw [due]
  by_cases c : Sh60.sized m n = true
  · rw [if_pos c, if_pos c, ← greys_is (sized_pos c).1 (sized_pos c).2 hx]
    rfl
  · rw [if_neg c, if_neg c]
    rfl
end Lt
namespace Lt
open PySem PySem.Spec PyProof.Rows L2
open Sh60 (from_ wide)

theorem from_int (w k i : Nat) : ((0 + (i : Int)) * (w : Int)) / (k : Int) = ((from_ w k i : Nat) : Int) := by
  unfold from_
  rw [Int.zero_add, Int.natCast_ediv, Int.natCast_mul]
theorem upTo_int (w k i : Nat) : (if ((from_ w k i : Nat) : Int) + 1 > ((0 + (i : Int) + 1) * (w : Int)) / (k : Int) then ((from_ w k i : Nat) : Int) + 1 else ((0 + (i : Int) + 1) * (w : Int)) / (k : Int)) = ((Sh60.upTo w k i : Nat) : Int) := by
  have e : ((0 + (i : Int) + 1) * (w : Int)) / (k : Int) = (((i + 1) * w / k : Nat) : Int) := by
    rw [Int.zero_add, Int.natCast_ediv, Int.natCast_mul, Int.natCast_add]
    rfl
  rw [e]
  unfold Sh60.upTo
  generalize (i + 1) * w / k = g
  generalize from_ w k i = f
  rw [Nat.max_def]
  split <;> split <;> omega
theorem pow_nat (k : Nat) : ((2 : Int) ^ k) = ((2 ^ k : Nat) : Int) := by
  rw [Int.natCast_pow]
  rfl
theorem row_int {x : List Nat} (hx : ∀ v ∈ x, v < 2 ^ 32) (s i : Nat) : Builtin.bitOr ((rowN x s i : Nat) : Int) (((x.getD (s + i) 0 : Nat) : Int) * 2 ^ ((32 : Int) * (0 + (i : Int))).toNat) = ((rowN x s (i + 1) : Nat) : Int) := by
  have e : ((32 : Int) * (0 + (i : Int))).toNat = 32 * i := by omega
  rw [e, Bits.bitOr_join (Int.natCast_nonneg _) (by
    rw [pow_nat]
    exact Int.ofNat_lt.mpr (rowN_lt hx i)) (Int.natCast_nonneg _), pow_nat, ← Int.natCast_mul, ← Int.natCast_add]
  rfl
theorem mask_int (n l r : Nat) : Builtin.bitAnd ((n : Int) / 2 ^ (l : Int).toNat) (1 * 2 ^ ((r : Int) - (l : Int)).toNat - 1) = ((n / 2 ^ l % 2 ^ (r - l) : Nat) : Int) := by
  have e : ((r : Int) - (l : Int)).toNat = r - l := by omega
  rw [e, Int.toNat_natCast, Int.one_mul, pow_nat l, ← Int.natCast_ediv, Bits.bitAnd_mask _ (Int.natCast_nonneg _), pow_nat, ← Int.natCast_emod]

/-! ### pairs, one behind the other; rows of them -/
def PairsAt (H : Hp) (p : Addr) (n : Nat) (g : Nat → Nat × Nat) : Prop :=
  ∃ ts : List Addr, ts.length = n ∧ H p = some (.lst (ts.map V.ref)) ∧ ∀ (i : Nat) (t : Addr), ts[i]? = some t → H t = some (.tup [nV (g i).1, nV (g i).2])
def BoxesAt (H : Hp) (p : Addr) (n : Nat) (f : Nat → Nat → Nat × Nat) : Prop :=
  ∃ rs : List Addr, rs.length = n ∧ H p = some (.lst (rs.map V.ref)) ∧ ∀ (j : Nat) (r : Addr), rs[j]? = some r → r ≠ p ∧ PairsAt H r n (f j)
theorem PairsAt.keep {B : Addr} {H H' : Hp} {p : Addr} {n : Nat} {g : Nat → Nat × Nat} (h : PairsAt H p n g) (hp : p ≠ B) (hB : ∀ xs, H B ≠ some (.tup xs)) (k : Keep B H H') : PairsAt H' p n g := by
  obtain ⟨ts, h1, h2, h3⟩ := h
  refine ⟨ts, h1, k _ _ hp h2, fun i t e => ?_⟩
  refine k _ _ (fun z => ?_) (h3 i t e)
  subst z
  exact hB _ (h3 i _ e)
theorem PairsAt.same {H H' : Hp} {p : Addr} {n : Nat} {g : Nat → Nat × Nat} (h : PairsAt H p n g) (k : Same H H') : PairsAt H' p n g := by
  obtain ⟨ts, h1, h2, h3⟩ := h
  exact ⟨ts, h1, k _ _ h2, fun i t e => k _ _ (h3 i t e)⟩
theorem range_cut {a b h : Nat} (hb : b ≤ h) : ((List.range h).drop a).take (b - a) = (List.range (b - a)).map fun r => a + r := by
  refine List.ext_getElem? fun i => ?_
  rw [List.getElem?_map, List.getElem?_take]
  by_cases hi : i < b - a
  · rw [if_pos hi, List.getElem?_drop, List.getElem?_range (show a + i < h by omega), List.getElem?_range hi]
    rfl
  · rw [if_neg hi, List.getElem?_eq_none (by rw [List.length_range]; omega)]
    rfl
/-- a box has a place at least, and not too many -/
theorem box_places {w h k : Nat} (hw0 : 0 < w) (hw : w ≤ 256) (hh0 : 0 < h) (hh : h ≤ 256) {x : List Nat} {i j : Nat} (hi : i < k) (hj : j < k) : 0 < (box w h k x j i).2 ∧ (box w h k x j i).2 ≤ 65536 := by
  have a2 := upTo_le hh0 hj
  have a3 := from_lt_upTo h k j
  have c2 := upTo_le hw0 hi
  have c3 := from_lt_upTo w k i
  refine ⟨Nat.mul_pos (by omega) (by omega), ?_⟩
  exact Nat.mul_le_mul (show _ ≤ 256 by omega) (show _ ≤ 256 by omega)
end Lt
namespace Lt
open PySem PySem.Spec PyProof.Rows L2
open PySem.W (Codec)
def top (i : Nat) : Stmt := PySem.Challenge.pw_likelettersdesk_s02_lt_greys.main.body.getD i (.Pass ⟨0, 0, 0, 0⟩)
abbrev sSize : Stmt := top 1
abbrev sOnes : Stmt := top 2
abbrev sSpans : Stmt := top 3
abbrev sPage : Stmt := top 4
abbrev sBox : Stmt := top 5
abbrev sBoxes : Stmt := top 6
abbrev sGreys : Stmt := top 7
section
variable {P : Program} {w : World} {K : PySem.W.Frag} {mg : Str → Option Value} {base : Heap}
theorem scZ : FnScope ["number"] ["number"] (defScope sSize) := ⟨rfl, rfl, rfl, by decide +kernel, rfl, by decide +kernel, by decide +kernel⟩
/-! ### is_size -/
def sizeOk (z : Int) : Bool := decide (1 ≤ z) && decide (z ≤ 256)
def spSize : Sp := fun vs H Q _ => ∃ z : Int, vs = [.int z] ∧ Q (.bl (sizeOk z)) H
theorem ok_size {f : Addr} {fd : FuncData} (F : Fun K "is_size" "is_size" sSize f fd) : FnOk P w K mg base CX0 1 f fd ["number"] spSize := by
  refine F.ok scZ (fun vs H Q E h => ?_) (fun cdv A outer s H vs Q E hr h => ?_)
  · obtain ⟨z, rfl, _⟩ := h
    rfl
  · obtain ⟨z, rfl, q⟩ := h
    refine ⟨_, pss_one (ps_ret (pe_chain op_le op_le pe_int (pv 0) pe_int)), ?_⟩
    refine ⟨_, rfl, _, _, rfl, rfl, _, rfl, ?_⟩
    unfold sizeOk at q
    by_cases e : (1 : Int) ≤ z
    · rw [decide_eq_true e] at q ⊢
      refine iteT ⟨_, _, rfl, rfl, ?_⟩
      rw [Bool.true_and] at q
      exact q
    · rw [decide_eq_false e] at q ⊢
      exact iteF q
theorem scO : FnScope ["number", "ones"] ["number"] (defScope sOnes) := ⟨rfl, rfl, rfl, by decide +kernel, rfl, by decide +kernel, by decide +kernel⟩
/-! ### count_ones -/
def spOnes : Sp := fun vs H Q _ => ∃ n : Nat, vs = [nV n] ∧ Q (nV (pop n)) H
theorem ok_ones {f : Addr} {fd : FuncData} (F : Fun K "count_ones" "count_ones" sOnes f fd) : FnOk P w K mg base CX0 1 f fd ["number"] spOnes := by
  refine F.ok scO (fun vs H Q E h => ?_) (fun cdv A outer s H vs Q E hr h => ?_)
  · obtain ⟨n, rfl, _⟩ := h
    rfl
  · obtain ⟨n, rfl, q⟩ := h
    refine ⟨_, pss_cons (ps_set (i := 1) scO.nd rfl (.inl rfl) pe_int)
      (pss_cons (ps_while PassesOwn.never (pt_cmpR op_gt (pv 0) pe_int (nomark _))
        (pss_cons (ps_set (i := 0) scO.nd rfl (.inl rfl) (pe_op op_and (pv 0) (pe_op op_sub (pv 0) pe_int)))
          (pss_one (ps_aug (i := 1) scO.nd rfl (.inl rfl) pe_int ip_add))))
      (pss_one (ps_ret (pv 1)))), ?_⟩
    refine ⟨fun m σ H' => ∃ c : Nat, σ = [some (nV m), some (nV c)] ∧ c + pop m = pop n ∧ H' = H, ⟨n, 0, rfl, by omega, rfl⟩, ?_⟩
    rintro m σ _ ⟨c, rfl, ec, rfl⟩
    refine ⟨_, rfl, _, _, rfl, rfl, _, rfl, ite2 (fun e => ?_) (fun e => ?_)⟩
    · have hm : 0 < m := by
        have := of_decide_eq_true e
        omega
      refine ⟨fun σ' H' => ∃ c' : Nat, σ' = [some (nV (m &&& (m - 1))), some (nV c')] ∧ c' + pop (m &&& (m - 1)) = pop n ∧ H' = _, fun σ' H' hN => ⟨_, clear_lt hm, hN⟩, ?_⟩
      refine ⟨_, rfl, _, rfl, _, _, rfl, rfl, _, _, rfl, rfl, ?_⟩
      refine ⟨_, rfl, _, _, rfl, rfl, ?_⟩
      refine ⟨c + 1, ?_, ?_, rfl⟩
      · show [some (V.int (Builtin.bitAnd (m : Int) ((m : Int) - 1))), some (V.int ((c : Int) + 1))] = _
        rw [clear_int m hm]
        rfl
      · have := pop_clear m hm
        omega
    · have hm : m = 0 := by
        have := of_decide_eq_false (Bool.not_eq_true _ ▸ e)
        omega
      subst hm
      rw [pop_zero, Nat.add_zero] at ec
      subst ec
      exact ⟨_, rfl, q⟩
theorem scS : FnScope ["size", "k", "parts", "i", "first"] ["size", "k"] (defScope sSpans) := ⟨rfl, rfl, rfl, by decide +kernel, rfl, by decide +kernel, by decide +kernel⟩
/-! ### spans -/
def spSpans : Sp := fun vs H Q _ => ∃ sz k : Nat, vs = [nV sz, nV k] ∧ sz ≤ 256 ∧ 0 < k ∧ k ≤ 16 ∧ ∀ H' p, Same H H' → H p = none → PairsAt H' p k (fun i => (Sh60.from_ sz k i, Sh60.upTo sz k i)) → Q (.ref p) H'
theorem ok_spans {f : Addr} {fd : FuncData} (F : Fun K "spans" "spans" sSpans f fd) (mr : mg "range" = none) (mm : mg "max" = none) : FnOk P w K mg base CX0 1 f fd ["size", "k"] spSpans := by
  refine F.ok scS (fun vs H Q E h => ?_) (fun cdv A outer s H vs Q E hr h => ?_)
  · obtain ⟨sz, k, rfl, _⟩ := h
    rfl
  · obtain ⟨sz, k, rfl, hs, hk0, hk, q⟩ := h
    refine ⟨_, pss_cons (ps_set (i := 2) scS.nd rfl (.inl rfl) (pe_lst pa_nil))
      (pss_cons (ps_for PassesOwn.never rfl (pi_range1 (by rfl) mr (pa_cons (pv 1) pa_nil)) (pg_name (i := 3) scS.nd rfl (.inl rfl))
        (pss_cons (ps_set (i := 4) scS.nd rfl (.inl rfl) (pe_op op_fdiv (pe_op op_mul (pv 3) (pv 0)) (pv 1)))
          (pss_one (ps_expr (pe_bm PySem.F.plainAttrs_list PySem.F.slot_list_append PySem.F.type_list_append mt_append (pv 2) (pa_cons (pe_tup (pa_cons (pv 4) (pa_cons
            (pe_callB (call_max2 rfl) (by rfl) mm (by decide +kernel) (pa_cons (pe_op op_fdiv (pe_op op_mul (pe_op op_add (pv 3) pe_int) (pv 0)) (pv 1)) (pa_cons (pe_op op_add (pv 4) pe_int) pa_nil))) pa_nil))) pa_nil))))))
      (pss_one (ps_ret (pv 2)))), ?_⟩
    refine ⟨Nat.zero_le _, fun p hp => ?_⟩
    have hmul : ∀ z : Int, 0 ≤ z → z ≤ 17 → CMul z (sz : Int) := fun z h0 h1 => .inl ⟨by omega, by omega⟩
    have hdiv : CDiv (0 : Int) (k : Int) := ⟨by omega, by omega⟩
    refine ⟨_, rfl, (k : Int), rfl, by omega, by omega, ?_⟩
    rw [Int.toNat_natCast]
    refine for_it walk_range (fun i σ H' => ∃ y3 y4, σ = [some (nV sz), some (nV k), some (.ref p), y3, y4] ∧ Same H H' ∧ PairsAt H' p i (fun i => (Sh60.from_ sz k i, Sh60.upTo sz k i)))
      ⟨none, none, rfl, same_upd hp, [], rfl, upd_same, fun i t e => by cases e⟩ (fun _ _ _ _ _ => trivial) ?_ ?_
    · rintro i x σ _ H1 hi ⟨y3, y4, rfl, sm, ts, hts, ep, et⟩ ⟨rfl, rfl⟩
      refine ⟨_, rfl, _, rfl, _, _, rfl, rfl, hmul _ (by omega) (by omega), _, rfl, _, _, rfl, rfl, hdiv, ?_⟩
      refine ⟨_, rfl, .inl ⟨rfl, _, .inl (.inl ep)⟩, _, rfl, _, rfl, _, _, rfl, rfl, _, rfl, _, _, rfl, rfl, hmul _ (by omega) (by omega), _, rfl, _, _, rfl, rfl, hdiv, _, rfl, _, _, rfl, rfl, _, _, rfl, by show 2 ≤ sizeLine; decide, fun t ht => ?_⟩
      have npt : p ≠ t := ne_of_none ep ht
      refine ⟨p, _, _, rfl, rfl, (upd_ne npt).trans ep, ?_, ?_⟩
      · rw [List.length_map, hts]
        exact smallL (by omega)
      · refine ⟨_, _, rfl, Same.put (sm.trans (same_upd ht)) hp, ts ++ [t], ?_, ?_, fun j r hj => ?_⟩
        · rw [List.length_append, hts]
          rfl
        · rw [upd_same, List.map_append]
          rfl
        · by_cases hji : j < i
          · rw [List.getElem?_append_left (by omega)] at hj
            have e1 := et j r hj
            rw [upd_ne (ne_of e1 ep (fun z => by cases z)), upd_ne (ne_of_none e1 ht)]
            exact e1
          · have hj2 : j = i := by
              have : j < (ts ++ [t]).length := (List.getElem?_eq_some_iff.mp hj).1
              rw [List.length_append, hts] at this
              have : j < i + 1 := this
              omega
            subst hj2
            rw [List.getElem?_append_right (by omega), hts, Nat.sub_self] at hj
            have e : t = r := Option.some.inj hj
            subst e
            rw [upd_ne npt.symm, upd_same]
            refine congrArg (fun l => some (HO.tup l)) ?_
            show [V.int (((0 + (j : Int)) * (sz : Int)) / (k : Int)), V.int (if ((0 + (j : Int)) * (sz : Int)) / (k : Int) + 1 > ((0 + (j : Int) + 1) * (sz : Int)) / (k : Int) then ((0 + (j : Int)) * (sz : Int)) / (k : Int) + 1 else ((0 + (j : Int) + 1) * (sz : Int)) / (k : Int))] = _
            rw [from_int, upTo_int]
    · rintro σ H1 ⟨y3, y4, rfl, sm, hP⟩
      exact ⟨_, rfl, q H1 p sm hp hP⟩
theorem scP : FnScope ["w", "h", "x", "length", "rows", "j", "row", "i"] ["w", "h", "x"] (defScope sPage) := ⟨rfl, rfl, rfl, by decide +kernel, rfl, by decide +kernel, by decide +kernel⟩
/-! ### page_rows -/
def spPage (K : PySem.W.Frag) : Sp := fun vs H Q _ => ∃ (w h : Nat) (a : Addr) (xs : List Nat), vs = [nV w, nV h, .ref a] ∧ SqL K H a (xs.map nV) ∧ w ≤ 256 ∧ h ≤ 256 ∧ xs.length = h * Sh60.wide w ∧ (∀ v ∈ xs, v < 2 ^ 32) ∧
  ∀ H' p, Same H H' → H p = none → H' p = some (.lst (((List.range h).map fun r => rowN xs (r * Sh60.wide w) (Sh60.wide w)).map nV)) → Q (.ref p) H'
theorem ok_page {f : Addr} {fd : FuncData} (F : Fun K "page_rows" "page_rows" sPage f fd) (mr : mg "range" = none) : FnOk P w K mg base CX0 1 f fd ["w", "h", "x"] (spPage K) := by
  refine F.ok scP (fun vs H Q E h => ?_) (fun cdv A outer s H vs Q E hr h => ?_)
  · obtain ⟨w, h, a, xs, rfl, _⟩ := h
    rfl
  · obtain ⟨w, h, a, xs, rfl, hx, hw, hh, hl, hb, q⟩ := h
    refine ⟨_, pss_cons (ps_set (i := 3) scP.nd rfl (.inl rfl) (pe_op op_fdiv (pe_op op_add (pv 0) pe_int) pe_int))
      (pss_cons (ps_set (i := 4) scP.nd rfl (.inl rfl) (pe_lst pa_nil))
      (pss_cons (ps_for PassesOwn.never rfl (pi_range1 (by rfl) mr (pa_cons (pv 1) pa_nil)) (pg_name (i := 5) scP.nd rfl (.inl rfl))
        (pss_cons (ps_set (i := 6) scP.nd rfl (.inl rfl) pe_int)
        (pss_cons (ps_for PassesOwn.never rfl (pi_range1 (by rfl) mr (pa_cons (pv 3) pa_nil)) (pg_name (i := 7) scP.nd rfl (.inl rfl))
          (pss_one (ps_set (i := 6) scP.nd rfl (.inl rfl) (pe_op op_or (pv 6) (pe_op op_shl (pe_ix ix_list (pv 2) (pe_op op_add (pe_op op_mul (pv 5) (pv 3)) (pv 7)) (fun _ _ => rfl)) (pe_op op_mul pe_int (pv 7)))))))
          (pss_one (ps_expr (pe_bm PySem.F.plainAttrs_list PySem.F.slot_list_append PySem.F.type_list_append mt_append (pv 4) (pa_cons (pv 6) pa_nil)))))))
      (pss_one (ps_ret (pv 4))))), ?_⟩
    refine ⟨_, rfl, _, _, rfl, rfl, _, _, rfl, rfl, ⟨by decide, by decide⟩, ?_⟩
    have eL : ((w : Int) + 31) / 32 = ((Sh60.wide w : Nat) : Int) := by
      unfold Sh60.wide
      omega
    have hL : Sh60.wide w ≤ 8 := by
      unfold Sh60.wide
      omega
    refine ⟨Nat.zero_le _, fun p hp => ?_⟩
    refine ⟨_, rfl, (h : Int), rfl, by omega, by omega, ?_⟩
    rw [Int.toNat_natCast]
    refine for_it walk_range (fun j σ H' => ∃ y5 y6 y7, σ = [some (nV w), some (nV h), some (.ref a), some (nV (Sh60.wide w)), some (.ref p), y5, y6, y7] ∧ Same H H' ∧ H' p = some (.lst (((List.range h).take j).map fun r => nV (rowN xs (r * Sh60.wide w) (Sh60.wide w)))))
      ⟨none, none, none, ?_, same_upd hp, upd_same⟩ (fun _ _ _ _ _ => trivial) ?_ ?_
    · show [some (nV w), some (nV h), some (V.ref a), some (V.int (((w : Int) + 31) / 32)), some (V.ref p), none, none, none] = _
      rw [eL]
    · rintro j x σ _ H1 hj ⟨y5, y6, y7, rfl, sm, ep⟩ ⟨rfl, rfl⟩
      -- for i in range(length)
      refine ⟨_, rfl, ((Sh60.wide w : Nat) : Int), rfl, by omega, by omega, ?_⟩
      rw [Int.toNat_natCast]
      refine for_it walk_range (fun i σ H' => ∃ y7, σ = [some (nV w), some (nV h), some (.ref a), some (nV (Sh60.wide w)), some (.ref p), some (.int (0 + (j : Int))), some (nV (rowN xs (j * Sh60.wide w) i)), y7] ∧ H' = H1)
        ⟨_, rfl, rfl⟩ (fun _ _ _ _ _ => trivial) ?_ ?_
      · rintro i x σ _ H2 hi ⟨y7, rfl, rfl⟩ ⟨rfl, rfl⟩
        have hm : (j + 1) * Sh60.wide w ≤ h * Sh60.wide w := Nat.mul_le_mul_right _ hj
        rw [Nat.add_mul, Nat.one_mul] at hm
        have hlt : j * Sh60.wide w + i < xs.length := by omega
        have ei : (0 + (j : Int)) * ((Sh60.wide w : Nat) : Int) + (0 + (i : Int)) = ((j * Sh60.wide w + i : Nat) : Int) := by
          rw [Int.zero_add, Int.zero_add, Int.natCast_add, Int.natCast_mul]
        have eg : (xs.map nV)[j * Sh60.wide w + i]? = some (nV (xs.getD (j * Sh60.wide w + i) 0)) := by
          rw [List.getElem?_map, List.getElem?_eq_getElem hlt, List.getD_eq_getElem?_getD, List.getElem?_eq_getElem hlt]
          rfl
        refine ⟨_, rfl, _, rfl, _, rfl, _, rfl, _, _, rfl, rfl, .inl ⟨by omega, by omega⟩, _, rfl, _, _, rfl, rfl, a, _, _, _, rfl, rfl, sm.seq hx, at_of ei eg,
          _, rfl, _, _, rfl, rfl, .inl ⟨by decide, by decide⟩, _, _, rfl, rfl, ⟨by omega, by omega, ?_⟩, _, _, rfl, rfl, ?_⟩
        · have b := hb _ (List.getElem_mem hlt)
          rw [List.getD_eq_getElem?_getD, List.getElem?_eq_getElem hlt]
          show ((xs[j * Sh60.wide w + i] : Nat) : Int).natAbs < 2 ^ 64
          rw [Int.natAbs_natCast]
          exact Nat.lt_trans b (by decide)
        · refine ⟨some (.int (0 + (i : Int))), ?_, rfl⟩
          show [_, _, _, _, _, _, some (V.int (Builtin.bitOr ((rowN xs (j * Sh60.wide w) i : Nat) : Int) (((xs.getD (j * Sh60.wide w + i) 0 : Nat) : Int) * 2 ^ ((32 : Int) * (0 + (i : Int))).toNat))), _] = _
          rw [row_int hb]
      · rintro σ H2 ⟨y7, rfl, rfl⟩
        refine ⟨_, rfl, .inl ⟨rfl, _, .inl (.inl ep)⟩, _, rfl, p, _, _, rfl, rfl, ep, ?_, _, _, _, rfl, Same.put sm hp, ?_⟩
        · rw [List.length_map, List.length_take, List.length_range]
          exact smallL (by omega)
        · rw [upd_same, take_snoc (List.getElem?_range hj), List.map_append]
          rfl
    · rintro σ H1 ⟨y5, y6, y7, rfl, sm, ep⟩
      rw [List.take_of_length_le (by rw [List.length_range]; omega)] at ep
      refine ⟨_, rfl, q H1 p sm hp ?_⟩
      rw [ep, List.map_map]
      rfl
theorem scB : FnScope ["rows", "left", "right", "mask", "dots", "row"] ["rows", "left", "right"] (defScope sBox) := ⟨rfl, rfl, rfl, by decide +kernel, rfl, by decide +kernel, by decide +kernel⟩
/-! ### count_box -/
def dotsL (rs : List Nat) (l r : Nat) : Nat := (rs.map fun n => pop (n / 2 ^ l % 2 ^ (r - l))).sum
theorem dotsL_snoc (rs : List Nat) (n l r : Nat) : dotsL (rs ++ [n]) l r = dotsL rs l r + pop (n / 2 ^ l % 2 ^ (r - l)) := by
  unfold dotsL
  rw [List.map_append, List.sum_append]
  rfl
def spBox (K : PySem.W.Frag) : Sp := fun vs H Q _ => ∃ (a : Addr) (rs : List Nat) (l r : Nat), vs = [.ref a, nV l, nV r] ∧ SqL K H a (rs.map nV) ∧ l ≤ r ∧ r ≤ 256 ∧ rs.length ≤ 256 ∧
  ∀ H' t, Same H H' → H t = none → H' t = some (.tup [nV (dotsL rs l r), nV (rs.length * (r - l))]) → Q (.ref t) H'
theorem ok_box {f f1 : Addr} {fd fd1 : FuncData} (F : Fun K "count_box" "count_box" sBox f fd) (F1 : Fun K "count_ones" "count_ones" sOnes f1 fd1) (b1 : Binds K fd1 ["number"] []) (g1 : mg "count_ones" = some (.ref f1)) (ml : mg "len" = none) : FnOk P w K mg base CX0 2 f fd ["rows", "left", "right"] (spBox K) := by
  have G1 : FnOk P w K mg base CX0 1 f1 fd1 ["number"] spOnes := ok_ones F1
  refine F.ok scB (fun vs H Q E h => ?_) (fun cdv A outer s H vs Q E hr h => ?_)
  · obtain ⟨a, rs, l, r, rfl, _⟩ := h
    rfl
  · obtain ⟨a, rs, l, r, rfl, hx, hlr, hr6, hl, q⟩ := h
    have hr1 : Room 1 _ := hr
    refine ⟨_, pss_cons (ps_set (i := 3) scB.nd rfl (.inl rfl) (pe_op op_sub (pe_op op_shl pe_int (pe_op op_sub (pv 2) (pv 1))) pe_int))
      (pss_cons (ps_set (i := 4) scB.nd rfl (.inl rfl) pe_int)
      (pss_cons (ps_for PassesOwn.never rfl (pi_list (pv 0)) (pg_name (i := 5) scB.nd rfl (.inl rfl))
        (pss_one (ps_aug (i := 4) scB.nd rfl (.inl rfl) (pe_call G1 hr1 (by rfl) g1 F1.kp b1 .nil pass0 (pa_cons (pe_op op_and (pe_op op_shr (pv 5) (pv 1)) (pv 3)) pa_nil)) ip_add)))
      (pss_one (ps_ret (pe_tup (pa_cons (pv 4) (pa_cons (pe_op op_mul (pe_callB call_len_seq (by rfl) ml PySem.boot_len (pa_cons (pv 0) pa_nil)) (pe_op op_sub (pv 2) (pv 1))) pa_nil))))))), ?_⟩
    refine ⟨_, rfl, _, rfl, _, _, rfl, rfl, _, _, rfl, rfl, ⟨by omega, by omega, by decide⟩, _, _, rfl, rfl, ?_⟩
    refine ⟨_, rfl, a, rfl, ⟨_, hx⟩, ?_⟩
    refine for_it (walk_list (xs := rs.map nV)) (fun i σ H' => ∃ y5, σ = [some (.ref a), some (nV l), some (nV r), some (.int (1 * 2 ^ ((r : Int) - (l : Int)).toNat - 1)), some (nV (dotsL (rs.take i) l r)), y5] ∧ H' = H)
      ⟨none, rfl, rfl⟩ (fun i σ H' _ h => by
        obtain ⟨_, _, rfl⟩ := h
        exact hx) ?_ ?_
    · rintro i x σ _ H1 hi ⟨y5, rfl, rfl⟩ ⟨rfl, ex⟩
      obtain ⟨n, hn, rfl⟩ := map_at ex
      refine ⟨_, rfl, _, rfl, _, rfl, _, _, rfl, rfl, by omega, _, rfl, _, _, rfl, rfl, n / 2 ^ l % 2 ^ (r - l), ?_, _, _, rfl, rfl, some (nV n), ?_, rfl⟩
      · show [V.int (Builtin.bitAnd ((n : Int) / 2 ^ (l : Int).toNat) (1 * 2 ^ ((r : Int) - (l : Int)).toNat - 1))] = _
        rw [mask_int]
      · show [_, _, _, _, some (V.int ((dotsL (rs.take i) l r : Nat) + (pop (n / 2 ^ l % 2 ^ (r - l)) : Nat))), _] = _
        rw [take_snoc hn, dotsL_snoc]
        rfl
    · rintro σ H1 ⟨y5, rfl, rfl⟩
      rw [List.length_map, List.take_length]
      refine ⟨_, rfl, _, rfl, a, _, rfl, .inl hx, _, rfl, _, rfl, _, _, rfl, rfl, _, _, rfl, rfl, .inl ⟨?_, ?_⟩, by show 2 ≤ sizeLine; decide, fun t ht => ?_⟩
      · rw [List.length_map]
        omega
      · rw [List.length_map]
        omega
      · refine q _ t (same_upd ht) ht ?_
        rw [upd_same]
        refine congrArg (fun l => some (HO.tup [_, l])) ?_
        show V.int (((rs.map nV).length : Int) * ((r : Int) - (l : Int))) = _
        rw [List.length_map, show ((r : Int) - (l : Int)) = ((r - l : Nat) : Int) by omega, ← Int.natCast_mul]
theorem scBs : FnScope ["w", "h", "x", "k", "rows", "columns", "boxes", "top", "bottom", "left", "right"] ["w", "h", "x", "k"] (defScope sBoxes) := ⟨rfl, rfl, rfl, by decide +kernel, rfl, by decide +kernel, by decide +kernel⟩
/-! ### count_boxes -/
def spBoxes (K : PySem.W.Frag) : Sp := fun vs H Q _ => ∃ (w h k : Nat) (a : Addr) (xs : List Nat), vs = [nV w, nV h, .ref a, nV k] ∧ SqL K H a (xs.map nV) ∧ 0 < w ∧ w ≤ 256 ∧ 0 < h ∧ h ≤ 256 ∧ 0 < k ∧ k ≤ 16 ∧ xs.length = h * Sh60.wide w ∧ (∀ v ∈ xs, v < 2 ^ 32) ∧
  ∀ H' p, Same H H' → H p = none → BoxesAt H' p k (box w h k xs) → Q (.ref p) H'
theorem ok_boxes {f fp fs fb f1 : Addr} {fd fdp fds fdb fd1 : FuncData} (F : Fun K "count_boxes" "count_boxes" sBoxes f fd) (FP : Fun K "page_rows" "page_rows" sPage fp fdp) (FS : Fun K "spans" "spans" sSpans fs fds) (FB : Fun K "count_box" "count_box" sBox fb fdb) (F1 : Fun K "count_ones" "count_ones" sOnes f1 fd1)
    (bp : Binds K fdp ["w", "h", "x"] []) (bs : Binds K fds ["size", "k"] []) (bb : Binds K fdb ["rows", "left", "right"] []) (b1 : Binds K fd1 ["number"] [])
    (gp : mg "page_rows" = some (.ref fp)) (gs : mg "spans" = some (.ref fs)) (gb : mg "count_box" = some (.ref fb)) (g1 : mg "count_ones" = some (.ref f1))
    (mr : mg "range" = none) (mm : mg "max" = none) (ml : mg "len" = none) : FnOk P w K mg base CX0 3 f fd ["w", "h", "x", "k"] (spBoxes K) := by
  have GP : FnOk P w K mg base CX0 1 fp fdp ["w", "h", "x"] (spPage K) := ok_page FP mr
  have GS : FnOk P w K mg base CX0 1 fs fds ["size", "k"] spSpans := ok_spans FS mr mm
  have GB : FnOk P w K mg base CX0 2 fb fdb ["rows", "left", "right"] (spBox K) := ok_box FB F1 b1 g1 ml
  refine F.ok scBs (fun vs H Q E h => ?_) (fun cdv A outer s H vs Q E hr h => ?_)
  · obtain ⟨w, h, k, a, xs, rfl, _⟩ := h
    rfl
  · obtain ⟨w, h, k, a, xs, rfl, hx, hw0, hw, hh0, hh, hk0, hk, hl, hb, q⟩ := h
    have hr1 : Room 1 _ := hr.mono (by decide)
    have hr2 : Room 2 _ := hr
    refine ⟨_, pss_cons (ps_set (i := 4) scBs.nd rfl (.inr rfl) (pe_call GP hr1 (by rfl) gp FP.kp bp .nil pass0 (pa_cons (pv 0) (pa_cons (pv 1) (pa_cons (pv 2) pa_nil)))))
      (pss_cons (ps_set (i := 5) scBs.nd rfl (.inl rfl) (pe_call GS hr1 (by rfl) gs FS.kp bs .nil pass0 (pa_cons (pv 0) (pa_cons (pv 3) pa_nil))))
      (pss_cons (ps_set (i := 6) scBs.nd rfl (.inl rfl) (pe_lst pa_nil))
      (pss_cons (ps_for PassesOwn.never rfl (pi_list (pe_call GS hr1 (by rfl) gs FS.kp bs .nil pass0 (pa_cons (pv 1) (pa_cons (pv 3) pa_nil))))
        (pg_tup rfl (pgs_cons (pg_name (i := 7) scBs.nd rfl (.inr rfl)) (pgs_cons (pg_name (i := 8) scBs.nd rfl (.inr rfl)) pgs_nil)))
        (pss_one (ps_expr (pe_bm PySem.F.plainAttrs_list PySem.F.slot_list_append PySem.F.type_list_append mt_append (pv 6) (pa_cons
          (pe_lc (own := [("left", 9), ("right", 10)]) (wi := iList K (tVar 5)) (g := gTup K 2 (gCons (gName 9) (gCons (gName 10) gNil))) (tt := tYes) rfl scBs.nd (pi_list (pv 5))
            (blkOk_by (N := ["w", "h", "x", "k", "rows", "columns", "boxes", "top", "bottom", "left", "right"]) (sc := defScope sBoxes) (by decide +kernel))
            (fun _ _ _ _ _ => pg_tup rfl (pgs_cons (pg_name (i := 9) scBs.nd rfl (.inl rfl) (.inr rfl)) (pgs_cons (pg_name (i := 10) scBs.nd rfl (.inl rfl) (.inr rfl)) pgs_nil)))
            (fun _ _ _ _ _ => pts_nil)
            (fun _ _ _ _ _ => pe_call GB hr2 (by rfl) gb FB.kp bb .nil pass0 (pa_cons (pe_slice (r := rSlL K) sl_list (pv 4) (po_some (pv 7)) (po_some (pv 8))) (pa_cons (pv 9) (pa_cons (pv 10) pa_nil))))) pa_nil)))))
      (pss_one (ps_ret (pv 6)))))), ?_⟩
    -- rows
    refine ⟨_, rfl, _, rfl, _, rfl, w, h, a, xs, rfl, hx, hw, hh, hl, hb, fun H1 R sm1 nR eR => ?_⟩
    -- columns
    refine ⟨_, rfl, _, rfl, w, k, rfl, hw, hk0, hk, fun H2 C sm2 nC pC => ?_⟩
    -- boxes = []
    refine ⟨Nat.zero_le _, fun B nB => ?_⟩
    have s02 : Same H H2 := sm1.trans sm2
    have n0B : H B = none := s02.free nB
    -- spans(h, k)
    refine ⟨_, rfl, _, rfl, h, k, rfl, hh, hk0, hk, fun H3 S sm3 nS pS => ?_⟩
    have s23 : Same H2 H3 := (same_upd nB).trans sm3
    have eB3 : H3 B = some (.lst []) := sm3 _ _ upd_same
    have nSB : S ≠ B := (ne_of_none upd_same nS).symm
    obtain ⟨ss, hss, eS, etS⟩ := pS
    have eR3 : H3 R = some (.lst (((List.range h).map fun r => rowN xs (r * Sh60.wide w) (Sh60.wide w)).map nV)) := s23 _ _ (sm2 _ _ eR)
    have nRB : R ≠ B := ne_of_none (sm2 _ _ eR) nB
    have pC3 := pC.same s23
    have nCB : C ≠ B := by
      obtain ⟨_, _, e, _⟩ := pC
      exact ne_of_none e nB
    refine ⟨S, rfl, ⟨_, .inl (.inl eS)⟩, ?_⟩
    refine for_it (walk_list (xs := ss.map V.ref)) (fun j σ H' => ∃ y7 y8 y9 y10, σ = [some (nV w), some (nV h), some (.ref a), some (nV k), some (.ref R), some (.ref C), some (.ref B), y7, y8, y9, y10] ∧ Keep B H3 H' ∧
        ∃ rs : List Addr, rs.length = j ∧ H' B = some (.lst (rs.map V.ref)) ∧ ∀ (j : Nat) (r : Addr), rs[j]? = some r → r ≠ B ∧ PairsAt H' r k (box w h k xs j))
      ⟨none, none, none, none, rfl, fun b o _ e => e, [], rfl, eB3, fun j r e => by cases e⟩ (fun j σ H' _ g => by
        obtain ⟨_, _, _, _, _, kp, _⟩ := g
        exact .inl (.inl (kp _ _ nSB eS))) ?_ ?_
    · rintro j x σ _ H4 hj ⟨y7, y8, y9, y10, rfl, kp, rs, hrs, eB, er⟩ ⟨rfl, ex⟩
      have hj' : j < k := by
        rw [List.length_map, hss] at hj
        exact hj
      obtain ⟨t, ht, rfl⟩ := map_at ex
      have eT := etS j t ht
      have nTB : t ≠ B := ne_of eT eB3 (fun z => by cases z)
      refine ⟨t, _, rfl, .inl (.inl (kp _ _ nTB eT)), rfl, _, _, rfl, _, _, rfl, rfl, ?_⟩
      refine ⟨_, rfl, .inl ⟨rfl, _, .inl (.inl eB)⟩, ?_⟩
      -- the comprehension over columns
      have pC4 : PairsAt H4 C k (fun i => (Sh60.from_ w k i, Sh60.upTo w k i)) := pC3.keep nCB (fun xs z => by rw [eB3] at z; cases z) kp
      obtain ⟨cs, hcs, eC4, etC⟩ := pC4
      have eR4 := kp _ _ nRB eR3
      refine ⟨_, rfl, C, rfl, ⟨_, .inl (.inl eC4)⟩, fun D hD => ?_⟩
      refine lc_it (walk_list (xs := cs.map V.ref)) (fun i H' => Same H4 H' ∧ PairsAt H' D i (box w h k xs j)) ⟨same_upd hD, [], rfl, upd_same, fun i t e => by cases e⟩ (fun i H' _ g => .inl (.inl (g.1 _ _ eC4))) ?_ ?_
      · rintro i x _ H5 hi ⟨sm5, ts, hts, eD, et⟩ ⟨rfl, ex⟩
        have hi' : i < k := by
          rw [List.length_map, hcs] at hi
          exact hi
        obtain ⟨u, hu, rfl⟩ := map_at ex
        refine ⟨u, _, rfl, .inl (.inl (sm5 _ _ (etC i u hu))), rfl, _, _, rfl, _, _, rfl, rfl, ?_⟩
        refine ⟨rfl, yes ?_⟩
        have a1 := from_lt hh0 hj'
        have a2 := upTo_le hh0 hj'
        have a3 := from_lt_upTo h k j
        have c2 := upTo_le hw0 hi'
        have c3 := from_lt_upTo w k i
        refine ⟨_, rfl, _, rfl, _, rfl, _, rfl, _, rfl, R, _, rfl, .inl (.inl (sm5 _ _ eR4)), fun Z hZ => ?_⟩
        have cut : cutV (((List.range h).map fun r => rowN xs (r * Sh60.wide w) (Sh60.wide w)).map nV) (some ((Sh60.from_ h k j : Nat) : Int)) (some ((Sh60.upTo h k j : Nat) : Int)) =
            ((List.range (Sh60.upTo h k j - Sh60.from_ h k j)).map fun r => rowN xs ((Sh60.from_ h k j + r) * Sh60.wide w) (Sh60.wide w)).map nV := by
          rw [cut_nat rfl rfl (by omega) (by rw [List.length_map, List.length_map, List.length_range]; exact a2)]
          rw [← List.map_drop, ← List.map_take, ← List.map_drop, ← List.map_take, range_cut a2, List.map_map, List.map_map, List.map_map]
          rfl
        rw [cut]
        have s6 : Same H5 (upd H5 Z (.lst (((List.range (Sh60.upTo h k j - Sh60.from_ h k j)).map fun r => rowN xs ((Sh60.from_ h k j + r) * Sh60.wide w) (Sh60.wide w)).map nV))) := same_upd hZ
        refine ⟨_, rfl, _, rfl, Z, _, Sh60.from_ w k i, Sh60.upTo w k i, rfl, .inl (.inl upd_same), by omega, by omega, by rw [List.length_map, List.length_range]; omega, fun H6 v sm6 nv ev => ?_⟩
        have eD6 := sm6 _ _ (s6 _ _ eD)
        have nDv : D ≠ v := ne_of_none (s6 _ _ eD) nv
        refine ⟨_, eD6, ?_, Same.put (sm5.trans (s6.trans sm6)) hD, ts ++ [v], ?_, ?_, fun m r hm => ?_⟩
        · rw [List.length_map, hts]
          exact smallL (by omega)
        · rw [List.length_append, hts]
          rfl
        · rw [upd_same, List.map_append]
          rfl
        · by_cases hmi : m < i
          · rw [List.getElem?_append_left (by omega)] at hm
            have e1 := et m r hm
            rw [upd_ne (ne_of e1 eD (fun z => by cases z))]
            exact sm6 _ _ (s6 _ _ e1)
          · have hm2 : m = i := by
              have : m < (ts ++ [v]).length := (List.getElem?_eq_some_iff.mp hm).1
              rw [List.length_append, hts] at this
              have : m < i + 1 := this
              omega
            subst hm2
            rw [List.getElem?_append_right (by omega), hts, Nat.sub_self] at hm
            have e : v = r := Option.some.inj hm
            subst e
            rw [upd_ne nDv.symm, ev, List.length_map, List.length_range]
            refine congrArg (fun n => some (HO.tup [nV n, _])) ?_
            unfold dotsL
            rw [List.map_map]
            rfl
      · rintro H5 ⟨sm5, pD⟩
        rw [List.length_map, hcs] at pD
        have eB5 := sm5 _ _ eB
        obtain ⟨_, _, eD, _⟩ := id pD
        have nDB : D ≠ B := (ne_of_none eB hD).symm
        refine ⟨B, _, _, rfl, rfl, eB5, ?_, _, _, _, _, rfl, Keep.put (kp.trans (Keep.of sm5)), rs ++ [D], ?_, ?_, fun m r hm => ?_⟩
        · rw [List.length_map, hrs]
          exact smallL (by omega)
        · rw [List.length_append, hrs]
          rfl
        · rw [upd_same, List.map_append]
          rfl
        · have kB : Keep B H5 (upd H5 B (.lst (rs.map V.ref ++ [V.ref D]))) := Keep.put fun b o _ e => e
          have tB : ∀ xs, H5 B ≠ some (.tup xs) := fun xs z => by
            rw [eB5] at z
            cases z
          by_cases hmi : m < j
          · rw [List.getElem?_append_left (by omega)] at hm
            obtain ⟨e1, e2⟩ := er m r hm
            exact ⟨e1, (e2.same sm5).keep e1 tB kB⟩
          · have hm2 : m = j := by
              have : m < (rs ++ [D]).length := (List.getElem?_eq_some_iff.mp hm).1
              rw [List.length_append, hrs] at this
              have : m < j + 1 := this
              omega
            subst hm2
            rw [List.getElem?_append_right (by omega), hrs, Nat.sub_self] at hm
            have e : D = r := Option.some.inj hm
            subst e
            exact ⟨nDB, pD.keep nDB tB kB⟩
    · rintro σ H4 ⟨y7, y8, y9, y10, rfl, kp, rs, hrs, eB, er⟩
      refine ⟨_, rfl, q H4 B ?_ n0B ⟨rs, by rw [hrs, List.length_map, hss], eB, er⟩⟩
      exact Same.keep (s02.trans (same_upd nB)) n0B (fun b o hb e => kp b o hb (sm3 _ _ e))
theorem scG : FnScope ["w", "h", "x", "answer", "boxes", "dots", "places"] ["w", "h", "x"] (defScope sGreys) := ⟨rfl, rfl, rfl, by decide +kernel, rfl, by decide +kernel, by decide +kernel⟩
/-! ### lt_greys -/
def grey (w h : Nat) (xs : List Nat) (j i : Nat) : Nat := (510 * (box w h 8 xs j i).1 + (box w h 8 xs j i).2) / (2 * (box w h 8 xs j i).2)
theorem flat_snoc {α : Type} (F : Nat → List α) (j : Nat) : (List.range (j + 1)).flatMap F = (List.range j).flatMap F ++ F j := by
  rw [List.range_succ, List.flatMap_append, List.flatMap_cons, List.flatMap_nil, List.append_nil]
theorem flat_len {α : Type} (f : Nat → Nat → α) (j : Nat) : ((List.range j).flatMap fun j => (List.range 8).map (f j)).length = 8 * j := grid_len f 8 j
theorem map_flat {α β : Type} (f : α → β) (F : Nat → List α) : ∀ l : List Nat, (l.flatMap F).map f = l.flatMap fun j => (F j).map f
  | [] => rfl
  | a :: r => by
    rw [List.flatMap_cons, List.flatMap_cons, List.map_append, map_flat f F r]
def spGreys (K : PySem.W.Frag) : Sp := fun vs H Q _ => ∃ (w h : Nat) (a : Addr) (xs : List Nat), vs = [nV w, nV h, .ref a] ∧ SqL K H a (xs.map nV) ∧ (Sh60.sized w h = true → xs.length = h * Sh60.wide w) ∧ (∀ v ∈ xs, v < 2 ^ 32) ∧
  ∀ H' p, H' p = some (.lst ((if Sh60.sized w h = true then 0 :: iL ((List.range 8).flatMap fun j => (List.range 8).map (grey w h xs j)) else [-2]).map V.int)) → Q (.ref p) H'
theorem ok_greys {f fz fb fp fs fc f1 : Addr} {fd fdz fdb fdp fds fdc fd1 : FuncData} (F : Fun K "lt_greys" "lt_greys" sGreys f fd) (FZ : Fun K "is_size" "is_size" sSize fz fdz) (FB : Fun K "count_boxes" "count_boxes" sBoxes fb fdb)
    (FP : Fun K "page_rows" "page_rows" sPage fp fdp) (FS : Fun K "spans" "spans" sSpans fs fds) (FC : Fun K "count_box" "count_box" sBox fc fdc) (F1 : Fun K "count_ones" "count_ones" sOnes f1 fd1)
    (bz : Binds K fdz ["number"] []) (bb : Binds K fdb ["w", "h", "x", "k"] []) (bp : Binds K fdp ["w", "h", "x"] []) (bs : Binds K fds ["size", "k"] []) (bc : Binds K fdc ["rows", "left", "right"] []) (b1 : Binds K fd1 ["number"] [])
    (gz : mg "is_size" = some (.ref fz)) (gb : mg "count_boxes" = some (.ref fb)) (gp : mg "page_rows" = some (.ref fp)) (gs : mg "spans" = some (.ref fs)) (gc : mg "count_box" = some (.ref fc)) (g1 : mg "count_ones" = some (.ref f1))
    (mr : mg "range" = none) (mm : mg "max" = none) (ml : mg "len" = none) : FnOk P w K mg base CX0 4 f fd ["w", "h", "x"] (spGreys K) := by
  have GZ : FnOk P w K mg base CX0 1 fz fdz ["number"] spSize := ok_size FZ
  have GB : FnOk P w K mg base CX0 3 fb fdb ["w", "h", "x", "k"] (spBoxes K) := ok_boxes FB FP FS FC F1 bp bs bc b1 gp gs gc g1 mr mm ml
  refine F.ok scG (fun vs H Q E h => ?_) (fun cdv A outer s H vs Q E hr h => ?_)
  · obtain ⟨w, h, a, xs, rfl, _⟩ := h
    rfl
  · obtain ⟨w, h, a, xs, rfl, hx, hl, hb, q⟩ := h
    have hr1 : Room 1 _ := hr.mono (by decide)
    have hr3 : Room 3 _ := hr
    refine ⟨_, pss_cons (ps_if (PW.pt (pw_or (pt_not (pt_val (pe_call GZ hr1 (by rfl) gz FZ.kp bz .nil pass0 (pa_cons (pv 0) pa_nil)))) (pw_or1 (pt_not (pt_val (pe_call GZ hr1 (by rfl) gz FZ.kp bz .nil pass0 (pa_cons (pv 1) pa_nil)))))))
        (pss_one (ps_ret (pe_lst (pa_cons (pe_un un_neg pe_int) pa_nil)))) pss_nil)
      (pss_cons (ps_set (i := 3) scG.nd rfl (.inl rfl) (pe_lst (pa_cons pe_int pa_nil)))
      (pss_cons (ps_for PassesOwn.never rfl (pi_list (pe_call GB hr3 (by rfl) gb FB.kp bb .nil pass0 (pa_cons (pv 0) (pa_cons (pv 1) (pa_cons (pv 2) (pa_cons pe_int pa_nil)))))) (pg_name (i := 4) scG.nd rfl (.inl rfl))
        (pss_one (ps_expr (pe_bm PySem.F.plainAttrs_list PySem.F.slot_list_extend PySem.F.type_list_extend mt_extend (pv 3) (pa_cons
          (pe_lc (own := [("dots", 5), ("places", 6)]) (wi := iList K (tVar 4)) (g := gTup K 2 (gCons (gName 5) (gCons (gName 6) gNil))) (tt := tYes) rfl scG.nd (pi_list (pv 4))
            (blkOk_by (N := ["w", "h", "x", "answer", "boxes", "dots", "places"]) (sc := defScope sGreys) (by decide +kernel))
            (fun _ _ _ _ _ => pg_tup rfl (pgs_cons (pg_name (i := 5) scG.nd rfl (.inl rfl) (.inr rfl)) (pgs_cons (pg_name (i := 6) scG.nd rfl (.inl rfl) (.inr rfl)) pgs_nil)))
            (fun _ _ _ _ _ => pts_nil)
            (fun _ _ _ _ _ => pe_op op_fdiv (pe_op op_add (pe_op op_mul pe_int (pv 5)) (pv 6)) (pe_op op_mul pe_int (pv 6)))) pa_nil)))))
      (pss_one (ps_ret (pv 3))))), ?_⟩
    have refuse : Sh60.sized w h = false → ∀ H0 : Hp, tRet (tLst (tCons (tUn (rU fun i => .int (-i)) (tC (.int 2))) tNil)) { nx := fun _ H' => Q .non H', rt := Q } (start ["w", "h", "x", "answer", "boxes", "dots", "places"] [nV w, nV h, .ref a]) H0 := fun e H0 => by
      rw [e] at q
      refine ⟨_, rfl, by show 1 ≤ sizeLine; decide, fun u hu => ?_⟩
      refine q _ u ?_
      rw [upd_same]
      rfl
    -- if not is_size(w) or not is_size(h)
    have z1 : ∀ n : Nat, sizeOk (n : Int) = Sh60.among n 1 256 := fun n => by
      unfold sizeOk Sh60.among
      refine congr (congrArg and ?_) ?_
      · exact decide_eq_decide.mpr (by omega)
      · exact decide_eq_decide.mpr (by omega)
    refine ⟨_, rfl, _, rfl, _, rfl, ?_⟩
    rw [z1]
    cases cw : Sh60.among w 1 256 with
    | false => exact iteT (iteT (refuse (by unfold Sh60.sized; rw [cw]; rfl) _))
    | true =>
    refine iteF ⟨_, rfl, _, rfl, _, rfl, ?_⟩
    rw [z1]
    cases ch : Sh60.among h 1 256 with
    | false => exact iteT (refuse (by unfold Sh60.sized; rw [cw, ch]; rfl) _)
    | true =>
    refine iteF ?_
    have cs : Sh60.sized w h = true := by
      unfold Sh60.sized
      rw [cw, ch]
      rfl
    have hl := hl cs
    rw [if_pos cs] at q
    have dw : 0 < w ∧ w ≤ 256 := by
      unfold Sh60.among at cw
      rw [Bool.and_eq_true] at cw
      exact ⟨of_decide_eq_true cw.1, of_decide_eq_true cw.2⟩
    have dh : 0 < h ∧ h ≤ 256 := by
      unfold Sh60.among at ch
      rw [Bool.and_eq_true] at ch
      exact ⟨of_decide_eq_true ch.1, of_decide_eq_true ch.2⟩
    -- answer = [0]
    refine ⟨by show 1 ≤ sizeLine; decide, fun A nA => ?_⟩
    have s1 : Same H (upd H A (.lst [.int 0])) := same_upd nA
    refine ⟨_, rfl, _, rfl, _, rfl, w, h, 8, a, xs, rfl, s1.seq hx, dw.1, dw.2, dh.1, dh.2, by decide, by decide, hl, hb, fun H1 B sm1 nB pB => ?_⟩
    have eA1 : H1 A = some (.lst [.int 0]) := sm1 _ _ upd_same
    have nBA : B ≠ A := (ne_of_none upd_same nB).symm
    obtain ⟨rs, hrs, eB, er⟩ := pB
    refine ⟨B, rfl, ⟨_, .inl (.inl eB)⟩, ?_⟩
    refine for_it (walk_list (xs := rs.map V.ref)) (fun j σ H' => ∃ y4 y5 y6, σ = [some (nV w), some (nV h), some (.ref a), some (.ref A), y4, y5, y6] ∧ Keep A H1 H' ∧ H' A = some (.lst (.int 0 :: ((List.range j).flatMap fun j => (List.range 8).map fun i => nV (grey w h xs j i)))))
      ⟨none, none, none, rfl, fun b o _ e => e, eA1⟩ (fun j σ H' _ g => by
        obtain ⟨_, _, _, _, kp, _⟩ := g
        exact .inl (.inl (kp _ _ nBA eB))) ?_ ?_
    · rintro j x σ _ H2 hj ⟨y4, y5, y6, rfl, kp, eA⟩ ⟨rfl, ex⟩
      have hj' : j < 8 := by
        rw [List.length_map, hrs] at hj
        exact hj
      obtain ⟨r, hr', rfl⟩ := map_at ex
      obtain ⟨_, pr⟩ := er j r hr'
      have nrA : r ≠ A := by
        obtain ⟨ts, hts, e, _⟩ := pr
        refine ne_of e eA1 fun z => ?_
        have := congrArg List.length (HO.lst.inj z)
        rw [List.length_map, hts] at this
        cases this
      have pr2 := pr.keep nrA (fun xs z => by rw [eA1] at z; cases z) kp
      obtain ⟨ts, hts, eR, et⟩ := pr2
      refine ⟨_, rfl, .inl ⟨rfl, _, .inl (.inl eA)⟩, _, rfl, r, rfl, ⟨_, .inl (.inl eR)⟩, fun D hD => ?_⟩
      refine lc_it (walk_list (xs := ts.map V.ref)) (fun i H' => Same H2 H' ∧ H' D = some (.lst (((List.range 8).take i).map fun i => nV (grey w h xs j i)))) ⟨same_upd hD, upd_same⟩ (fun i H' _ g => .inl (.inl (g.1 _ _ eR))) ?_ ?_
      · rintro i x _ H3 hi ⟨sm3, eD⟩ ⟨rfl, ex⟩
        have hi' : i < 8 := by
          rw [List.length_map, hts] at hi
          exact hi
        obtain ⟨t, ht, rfl⟩ := map_at ex
        have pb := box_places dw.1 dw.2 dh.1 dh.2 (x := xs) hi' hj'
        refine ⟨t, _, rfl, .inl (.inl (sm3 _ _ (et i t ht))), rfl, _, _, rfl, _, _, rfl, rfl, ?_⟩
        refine ⟨rfl, yes ?_⟩
        refine ⟨_, rfl, _, _, rfl, rfl, .inl ⟨by decide, by decide⟩, _, rfl, _, _, rfl, rfl, _, rfl, _, _, rfl, rfl, .inl ⟨by decide, by decide⟩, _, _, rfl, rfl, ⟨by omega, by omega⟩, _, eD, ?_, Same.put sm3 hD, ?_⟩
        · rw [List.length_map, List.length_take, List.length_range]
          exact smallL (by omega)
        · rw [upd_same, take_snoc (List.getElem?_range hi'), List.map_append]
          refine congrArg (fun z => some (HO.lst (_ ++ [z]))) ?_
          show V.int ((510 * ((box w h 8 xs j i).1 : Int) + ((box w h 8 xs j i).2 : Int)) / (2 * ((box w h 8 xs j i).2 : Int))) = V.int ((grey w h xs j i : Nat) : Int)
          unfold grey
          rw [Int.natCast_ediv, Int.natCast_add, Int.natCast_mul, Int.natCast_mul]
          rfl
      · rintro H3 ⟨sm3, eD⟩
        rw [List.take_of_length_le (by rw [List.length_range, List.length_map, hts]; exact Nat.le_refl _)] at eD
        refine ⟨A, D, _, _, rfl, rfl, sm3 _ _ eA, eD, ?_, _, _, _, rfl, Keep.put (kp.trans (Keep.of sm3)), ?_⟩
        · rw [List.length_cons, flat_len (fun j i => nV (grey w h xs j i)), List.length_map, List.length_range]
          exact smallE (by omega)
        · rw [upd_same, flat_snoc]
          rfl
    · rintro σ H2 ⟨y4, y5, y6, rfl, kp, eA⟩
      rw [List.length_map, hrs] at eA
      refine ⟨_, rfl, q H2 A ?_⟩
      rw [eA]
      refine congrArg (fun l => some (HO.lst l)) ?_
      show V.int 0 :: _ = V.int 0 :: _
      rw [← nV_iL, map_flat]
      refine congrArg (fun l => V.int 0 :: (List.range 8).flatMap l) (funext fun j => ?_)
      rw [List.map_map]
      rfl
end
/-! ### what the top has written -/
theorem all_mk {P : Program} {w : World} {K : PySem.W.Frag} {h : Heap} {mg : Str → Option Value} {fa f1 f2 f3 f4 f5 f6 f7 : Addr} (X : K.In h) (G : h.Ns mainGlobals mg) (hfa : mg "lt_greys" = some (.ref fa))
    {od1 an1 od2 an2 od3 an3 od4 an4 od5 an5 od6 an6 od7 an7 : Option Addr} {sl1 sl2 sl3 sl4 sl5 sl6 sl7 : Array (Option Value)} {oc1 kV1 dc1 pm1 cd1 ct1 oc2 kV2 dc2 pm2 cd2 ct2 oc3 kV3 dc3 pm3 cd3 ct3 oc4 kV4 dc4 pm4 cd4 ct4 oc5 kV5 dc5 pm5 cd5 ct5 oc6 kV6 dc6 pm6 cd6 ct6 oc7 kV7 dc7 pm7 cd7 ct7 : Value}
    (a1 : PySem.W.nsIn K mainGlobals "is_size" = some (some (.ref f1))) (l1 : K.lookup f1 = some ⟨oc1, od1, .func (PySem.W.fnOf "is_size" "is_size" (defArgs sSize) (defBody sSize) (defScope sSize) .none kV1 dc1 pm1 an1 cd1 ct1), sl1⟩) (c1 : PySem.W.codeIn K cd1 "is_size" = true) (k1 : PySem.W.keepIn K (.ref f1) = true)
    (a2 : PySem.W.nsIn K mainGlobals "count_ones" = some (some (.ref f2))) (l2 : K.lookup f2 = some ⟨oc2, od2, .func (PySem.W.fnOf "count_ones" "count_ones" (defArgs sOnes) (defBody sOnes) (defScope sOnes) .none kV2 dc2 pm2 an2 cd2 ct2), sl2⟩) (c2 : PySem.W.codeIn K cd2 "count_ones" = true) (k2 : PySem.W.keepIn K (.ref f2) = true)
    (a3 : PySem.W.nsIn K mainGlobals "spans" = some (some (.ref f3))) (l3 : K.lookup f3 = some ⟨oc3, od3, .func (PySem.W.fnOf "spans" "spans" (defArgs sSpans) (defBody sSpans) (defScope sSpans) .none kV3 dc3 pm3 an3 cd3 ct3), sl3⟩) (c3 : PySem.W.codeIn K cd3 "spans" = true) (k3 : PySem.W.keepIn K (.ref f3) = true)
    (a4 : PySem.W.nsIn K mainGlobals "page_rows" = some (some (.ref f4))) (l4 : K.lookup f4 = some ⟨oc4, od4, .func (PySem.W.fnOf "page_rows" "page_rows" (defArgs sPage) (defBody sPage) (defScope sPage) .none kV4 dc4 pm4 an4 cd4 ct4), sl4⟩) (c4 : PySem.W.codeIn K cd4 "page_rows" = true) (k4 : PySem.W.keepIn K (.ref f4) = true)
    (a5 : PySem.W.nsIn K mainGlobals "count_box" = some (some (.ref f5))) (l5 : K.lookup f5 = some ⟨oc5, od5, .func (PySem.W.fnOf "count_box" "count_box" (defArgs sBox) (defBody sBox) (defScope sBox) .none kV5 dc5 pm5 an5 cd5 ct5), sl5⟩) (c5 : PySem.W.codeIn K cd5 "count_box" = true) (k5 : PySem.W.keepIn K (.ref f5) = true)
    (a6 : PySem.W.nsIn K mainGlobals "count_boxes" = some (some (.ref f6))) (l6 : K.lookup f6 = some ⟨oc6, od6, .func (PySem.W.fnOf "count_boxes" "count_boxes" (defArgs sBoxes) (defBody sBoxes) (defScope sBoxes) .none kV6 dc6 pm6 an6 cd6 ct6), sl6⟩) (c6 : PySem.W.codeIn K cd6 "count_boxes" = true) (k6 : PySem.W.keepIn K (.ref f6) = true)
    (a7 : PySem.W.nsIn K mainGlobals "lt_greys" = some (some (.ref f7))) (l7 : K.lookup f7 = some ⟨oc7, od7, .func (PySem.W.fnOf "lt_greys" "lt_greys" (defArgs sGreys) (defBody sGreys) (defScope sGreys) .none kV7 dc7 pm7 an7 cd7 ct7), sl7⟩) (c7 : PySem.W.codeIn K cd7 "lt_greys" = true) (k7 : PySem.W.keepIn K (.ref f7) = true)
    (z1 : PySem.W.nsIn K mainGlobals "range" = some none) (z2 : PySem.W.nsIn K mainGlobals "max" = some none) (z3 : PySem.W.nsIn K mainGlobals "len" = some none) :
    ∃ fd : FuncData, (∀ (s : Shared) (us : List Value), us.length = (["w", "h", "x"] : List Str).length → BindsTo s fd ⟨us, []⟩ ((["w", "h", "x"] : List Str).zip us)) ∧ ∀ base : Heap, K.In base → base.Ns mainGlobals mg → FnOk P w K mg base CX0 4 fa fd ["w", "h", "x"] (spGreys K) := by
  have e := hfa.symm.trans (PySem.W.mg_of X G a7)
  cases e
  have F1 := fun_mk (st := sSize) l1 c1 k1
  have F2 := fun_mk (st := sOnes) l2 c2 k2
  have F3 := fun_mk (st := sSpans) l3 c3 k3
  have F4 := fun_mk (st := sPage) l4 c4 k4
  have F5 := fun_mk (st := sBox) l5 c5 k5
  have F6 := fun_mk (st := sBoxes) l6 c6 k6
  have F7 := fun_mk (st := sGreys) l7 c7 k7
  have b1 := F1.binds (ps := ["number"]) fun _ _ _ _ _ _ us hl => match us, hl with | [_], _ => rfl
  have b2 := F2.binds (ps := ["number"]) fun _ _ _ _ _ _ us hl => match us, hl with | [_], _ => rfl
  have b3 := F3.binds (ps := ["size", "k"]) fun _ _ _ _ _ _ us hl => match us, hl with | [_, _], _ => rfl
  have b4 := F4.binds (ps := ["w", "h", "x"]) fun _ _ _ _ _ _ us hl => match us, hl with | [_, _, _], _ => rfl
  have b5 := F5.binds (ps := ["rows", "left", "right"]) fun _ _ _ _ _ _ us hl => match us, hl with | [_, _, _], _ => rfl
  have b6 := F6.binds (ps := ["w", "h", "x", "k"]) fun _ _ _ _ _ _ us hl => match us, hl with | [_, _, _, _], _ => rfl
  have g1 := PySem.W.mg_of X G a1
  have g2 := PySem.W.mg_of X G a2
  have g3 := PySem.W.mg_of X G a3
  have g4 := PySem.W.mg_of X G a4
  have g5 := PySem.W.mg_of X G a5
  have g6 := PySem.W.mg_of X G a6
  have g7 := PySem.W.mg_of X G a7
  have mRange := PySem.W.mg_none_of X G z1
  have mMax := PySem.W.mg_none_of X G z2
  have mLen := PySem.W.mg_none_of X G z3
  exact ⟨PySem.W.fnOf "lt_greys" "lt_greys" (defArgs sGreys) (defBody sGreys) (defScope sGreys) .none kV7 dc7 pm7 an7 cd7 ct7, fun s us hu => match us, hu with | [_, _, _], _ => .of_eq rfl,
    fun base _ _ => ok_greys F7 F1 F6 F4 F3 F5 F2 b1 b6 b4 b3 b5 b2 g1 g6 g4 g3 g5 g2 mRange mMax mLen⟩
end Lt
open PySem PySem.W PyProof.Rows
set_option maxRecDepth 100000 in
set_option maxHeartbeats 8000000 in
theorem PySem.Challenge.cw_likelettersdesk_s02_lt_greys_holds : PySem.Challenge.rw_likelettersdesk_s02_lt_greys.Holds := by
  w_on; k_headS; (case hw => exact ⟨[.int 0, .int 0, .list []], by decide +kernel, by decide +kernel⟩)
  k_fillS
  refine L2.walk_specK (r := PySem.Challenge.rw_likelettersdesk_s02_lt_greys) (k := 4) (CX := L2.CX0) (ps := ["w", "h", "x"]) (sp := Lt.spGreys) (by decide +kernel) rfl rfl ⟨rfl, by decide, by decide⟩ (fun w h Y => PySem.W.kIn_of Y) ?F ?S (fun _ _ _ _ z => z)
  case F =>
    intro w mg fa h Y KX G hmg
    refine' Lt.all_mk KX G hmg ?a1 ?l1 ?c1 ?k1 ?a2 ?l2 ?c2 ?k2 ?a3 ?l3 ?c3 ?k3 ?a4 ?l4 ?c4 ?k4 ?a5 ?l5 ?c5 ?k5 ?a6 ?l6 ?c6 ?k6 ?a7 ?l7 ?c7 ?k7 ?z1 ?z2 ?z3
    (case a1 => k_is); (case l1 => k_is); (case c1 => k_is); (case k1 => k_is)
    (case a2 => k_is); (case l2 => k_is); (case c2 => k_is); (case k2 => k_is)
    (case a3 => k_is); (case l3 => k_is); (case c3 => k_is); (case k3 => k_is)
    (case a4 => k_is); (case l4 => k_is); (case c4 => k_is); (case k4 => k_is)
    (case a5 => k_is); (case l5 => k_is); (case c5 => k_is); (case k5 => k_is)
    (case a6 => k_is); (case l6 => k_is); (case c6 => k_is); (case k6 => k_is)
    (case a7 => k_is); (case l7 => k_is); (case c7 => k_is); (case k7 => k_is)
    (case z1 => k_is)
    (case z2 => k_is)
    (case z3 => k_is)
  case S =>
    intro K H xs a hO hwi hask hx
    obtain ⟨w, h, x, u⟩ := a
    cases hx with
    | cons h1 h2 =>
      cases h2 with
      | cons h3 h4 =>
        cases h4 with
        | cons h5 h6 =>
          cases h6
          cases h1
          cases h3
          cases h5 with
          | lst hs ha =>
            have e1 := L2.ints_dw x _ ha
            subst e1
            obtain ⟨m, n, ns, rfl, rfl, rfl, hb, hl, due⟩ := Lt.due_greys w h x hask
            refine ⟨m, n, _, ns, rfl, by rw [Lt.nV_iL]; exact hs, hl, hb, fun H' p hp => ?_⟩
            show L2.Dw K H' (.ref p) (WData.list ((PySh60.lt_greys (m : Int) (n : Int) (Lt.iL ns)).map WData.int))
            rw [due]
            exact .lst (L2.SqL.of hp) (L2.dw_ints _)
#print axioms PySem.Challenge.cw_likelettersdesk_s02_lt_greys_holds
