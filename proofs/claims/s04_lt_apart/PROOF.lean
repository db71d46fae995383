import PyProof.Rows.All
import Wide.All
import OpenK.AllK
import Wide.FinOn
import Open.SpecLaws
import KE.OsGo
import HandS.ForSpec
import HandS.Comp
import HandS.Iter
import HandS.Text
import HandS.Walk
import PySem.Challenge.RW_likelettersdesk_s04_lt_apart
set_option Elab.async false
namespace Lt

/-! ### how many ones a number has -/
def pop (n : Nat) : Nat := if h : n = 0 then 0 else n % 2 + pop (n / 2)
termination_by n
decreasing_by exact Nat.div_lt_self (by omega) (by omega)
theorem pop_zero : pop 0 = 0 := by rw [pop]; rfl
theorem pop_eq (n : Nat) : pop n = n % 2 + pop (n / 2) := by
  by_cases h : n = 0
  · subst h
    rw [show 0 / 2 = 0 from rfl, pop_zero]
  · rw [pop, dif_neg h]
theorem and_split (a b : Nat) : a &&& b = 2 * (a / 2 &&& b / 2) + (a % 2 &&& b % 2) := by
  have h1 : (a &&& b) / 2 = a / 2 &&& b / 2 := Nat.and_div_two
  have h2 : (a &&& b) % 2 = (a % 2) &&& (b % 2) := by
    have := Nat.and_mod_two_pow (a := a) (b := b) (n := 1)
    simpa using this
  omega
theorem bit_and {a b : Nat} (ha : a < 2) (hb : b < 2) : a &&& b = a * b := by
  have h1 : a = 0 ∨ a = 1 := by omega
  have h2 : b = 0 ∨ b = 1 := by omega
  rcases h1 with rfl | rfl <;> rcases h2 with rfl | rfl <;> rfl
theorem clear_even {n m : Nat} (h : n = 2 * m) (hm : 0 < m) : n &&& (n - 1) = 2 * (m &&& (m - 1)) := by
  rw [and_split, show n / 2 = m by omega, show (n - 1) / 2 = m - 1 by omega, show n % 2 = 0 by omega, Nat.zero_and, Nat.add_zero]
theorem clear_odd {n m : Nat} (h : n = 2 * m + 1) : n &&& (n - 1) = 2 * m := by
  rw [and_split, show n / 2 = m by omega, show (n - 1) / 2 = m by omega, show (n - 1) % 2 = 0 by omega, Nat.and_zero, Nat.add_zero, Nat.and_self]
theorem pop_dbl (m : Nat) : pop (2 * m) = pop m := by
  rw [pop_eq, show 2 * m % 2 = 0 by omega, show 2 * m / 2 = m by omega, Nat.zero_add]
theorem pop_dbl1 (m : Nat) : pop (2 * m + 1) = pop m + 1 := by
  rw [pop_eq, show (2 * m + 1) % 2 = 1 by omega, show (2 * m + 1) / 2 = m by omega, Nat.add_comm]
/-- the lowest one goes -/
theorem pop_clear (n : Nat) (h : 0 < n) : pop (n &&& (n - 1)) + 1 = pop n := by
  induction n using Nat.strongRecOn with
  | _ n ih =>
    rcases Nat.mod_two_eq_zero_or_one n with e | e
    · obtain ⟨m, rfl⟩ : ∃ m, n = 2 * m := ⟨n / 2, by omega⟩
      have hm : 0 < m := by omega
      rw [clear_even rfl hm, pop_dbl, pop_dbl]
      exact ih m (by omega) hm
    · obtain ⟨m, rfl⟩ : ∃ m, n = 2 * m + 1 := ⟨n / 2, by omega⟩
      rw [clear_odd rfl, pop_dbl, pop_dbl1]
theorem clear_lt {n : Nat} (h : 0 < n) : n &&& (n - 1) < n := Nat.lt_of_le_of_lt Nat.and_le_right (by omega)

/-! ### by places -/
def cnt (k : Nat) (p : Nat → Bool) : Nat := ((List.range k).filter p).length
theorem cnt_zero (p : Nat → Bool) : cnt 0 p = 0 := rfl
theorem cnt_succ (k : Nat) (p : Nat → Bool) : cnt (k + 1) p = (if p 0 then 1 else 0) + cnt k (fun i => p (i + 1)) := by
  unfold cnt
  rw [List.range_succ_eq_map, List.filter_cons, List.filter_map, apply_ite List.length, List.length_cons, List.length_map]
  show (if p 0 = true then (List.filter (fun i => p (i + 1)) (List.range k)).length + 1 else (List.filter (fun i => p (i + 1)) (List.range k)).length) = _
  split <;> omega
theorem cnt_congr {k : Nat} {p q : Nat → Bool} (h : ∀ i, i < k → p i = q i) : cnt k p = cnt k q := by
  unfold cnt
  exact congrArg List.length (List.filter_congr fun i hi => h i (List.mem_range.mp hi))
theorem cnt_le (k : Nat) (p : Nat → Bool) : cnt k p ≤ k := by
  unfold cnt
  exact Nat.le_trans (List.length_filter_le _ _) (Nat.le_of_eq List.length_range)
theorem pop_cnt : ∀ (k n : Nat), n < 2 ^ k → pop n = cnt k n.testBit
  | 0, n, h => by
    have : n = 0 := by simpa using h
    rw [this, pop_zero, cnt_zero]
  | k + 1, n, h => by
    rw [pop_eq, pop_cnt k (n / 2) (by rw [Nat.pow_succ] at h; omega), cnt_succ]
    have e : (fun i => n.testBit (i + 1)) = (n / 2).testBit := by
      funext i
      exact Nat.testBit_succ n i
    rw [e]
    have e0 : n % 2 = if n.testBit 0 = true then 1 else 0 := by
      rw [Nat.testBit_zero]
      rcases Nat.mod_two_eq_zero_or_one n with z | z <;> simp [z]
    omega
theorem bitOf (n i : Nat) : (n / 2 ^ i % 2 == 1) = n.testBit i := by
  rw [Nat.testBit_eq_decide_div_mod_eq]
  rfl

/-! ### w & ~v -/
theorem less_split (w v : Nat) : w - (w &&& v) = 2 * (w / 2 - (w / 2 &&& v / 2)) + (w % 2 - (w % 2 &&& v % 2)) := by
  have h := and_split w v
  have h1 : w / 2 &&& v / 2 ≤ w / 2 := Nat.and_le_left
  have h2 : w % 2 &&& v % 2 ≤ w % 2 := Nat.and_le_left
  omega
theorem testBit_less (i : Nat) : ∀ w v : Nat, (w - (w &&& v)).testBit i = (w.testBit i && !v.testBit i) := by
  induction i with
  | zero =>
    intro w v
    rw [less_split, Nat.testBit_zero, Nat.testBit_zero, Nat.testBit_zero]
    rw [bit_and (Nat.mod_lt _ (by omega)) (Nat.mod_lt _ (by omega))]
    rcases Nat.mod_two_eq_zero_or_one w with a | a <;> rcases Nat.mod_two_eq_zero_or_one v with b | b <;> rw [a, b] <;> simp <;> omega
  | succ i ih =>
    intro w v
    rw [Nat.testBit_succ, Nat.testBit_succ, Nat.testBit_succ, ← ih]
    congr 1
    rw [less_split w v]
    have h2 : w % 2 &&& v % 2 ≤ w % 2 := Nat.and_le_left
    omega

/-! ### a word of bits -/
def word : List Bool → Nat
  | [] => 0
  | b :: r => b.toNat + 2 * word r
theorem word_lt : ∀ l : List Bool, word l < 2 ^ l.length
  | [] => by decide
  | b :: r => by
    have ih := word_lt r
    have hb : b.toNat ≤ 1 := Bool.toNat_le b
    show b.toNat + 2 * word r < 2 ^ (r.length + 1)
    rw [Nat.pow_succ]
    omega
theorem word_snoc : ∀ (l : List Bool) (b : Bool), word (l ++ [b]) = word l + b.toNat * 2 ^ l.length
  | [], b => by simp [word]
  | c :: r, b => by
    show c.toNat + 2 * word (r ++ [b]) = c.toNat + 2 * word r + b.toNat * 2 ^ (r.length + 1)
    have e : b.toNat * 2 ^ (r.length + 1) = 2 * (b.toNat * 2 ^ r.length) := by
      rw [Nat.pow_succ, ← Nat.mul_assoc, Nat.mul_comm]
    rw [word_snoc r b, e]
    omega
theorem word_bit : ∀ (l : List Bool) (i : Nat), (word l).testBit i = l.getD i false
  | [], i => by simp [word]
  | c :: r, 0 => by
    show (c.toNat + 2 * word r).testBit 0 = c
    rw [Nat.testBit_zero]
    cases c <;> simp
  | c :: r, i + 1 => by
    rw [Nat.testBit_succ]
    have : word (c :: r) / 2 = word r := by
      show (c.toNat + 2 * word r) / 2 = word r
      have := Bool.toNat_le c
      omega
    rw [this, word_bit r i]
    rfl
/-- as the specification says it -/
theorem word_sum (l : List Bool) : word l = ((List.range l.length).map fun i => if l.getD i false = true then 2 ^ i else 0).sum := by
  induction l with
  | nil => rfl
  | cons c r ih =>
    rw [List.length_cons, List.range_succ_eq_map, List.map_cons, List.sum_cons, List.map_map]
    have e : ((fun i => if (c :: r).getD i false = true then 2 ^ i else 0) ∘ Nat.succ) = fun i => 2 * (if r.getD i false = true then 2 ^ i else 0) := by
      funext i
      show (if r.getD i false = true then 2 ^ (i + 1) else 0) = _
      rw [Nat.pow_succ]
      split <;> omega
    rw [e]
    have m2 : ∀ (f : Nat → Nat) (l : List Nat), (l.map fun i => 2 * f i).sum = 2 * (l.map f).sum := by
      intro f l
      induction l with
      | nil => rfl
      | cons a s hs =>
        rw [List.map_cons, List.map_cons, List.sum_cons, List.sum_cons, hs]
        omega
    rw [m2 (fun i => if r.getD i false = true then 2 ^ i else 0), ← ih]
    show c.toNat + 2 * word r = _
    cases c <;> rfl

/-! ### numbers as the request has them -/
def iL (l : List Nat) : List Int := l.map fun (n : Nat) => (n : Int)
theorem iL_sum : ∀ l : List Nat, (iL l).sum = (l.sum : Int)
  | [] => rfl
  | a :: r => by
    show ((a : Int) :: iL r).sum = ((a :: r).sum : Nat)
    rw [List.sum_cons, List.sum_cons, iL_sum r, Int.natCast_add]
/-- a list of ints that are not negative is one of naturals -/
theorem iL_of : ∀ l : List Int, (∀ z ∈ l, 0 ≤ z) → l = iL (l.map Int.toNat)
  | [], _ => rfl
  | a :: r, h => by
    have h0 := h a List.mem_cons_self
    show a :: r = ((a.toNat : Nat) : Int) :: iL (r.map Int.toNat)
    rw [← iL_of r fun z hz => h z (List.mem_cons_of_mem _ hz), Int.toNat_of_nonneg h0]

theorem iL_length (l : List Nat) : (iL l).length = l.length := List.length_map ..
theorem nats_iL : ∀ l : List Nat, Sh60Neutral.nats (iL l) = l
  | [] => rfl
  | a :: r => by
    show ((a : Int).toNat) :: Sh60Neutral.nats (iL r) = a :: r
    rw [nats_iL r, Int.toNat_natCast]
theorem all_iL {b : Nat} : ∀ {l : List Nat}, (iL l).all (fun z => Sh60Neutral.natural z b) = true → ∀ x ∈ l, x < 2 ^ b
  | [], _, x, h => by cases h
  | a :: r, h, x, hx => by
    have h' : (Sh60Neutral.natural (a : Int) b && (iL r).all fun z => Sh60Neutral.natural z b) = true := h
    rw [Bool.and_eq_true] at h'
    rcases List.mem_cons.mp hx with rfl | hx
    · have q := h'.1
      unfold Sh60Neutral.natural at q
      rw [Bool.and_eq_true] at q
      have q2 := of_decide_eq_true q.2
      have e : ((2 : Int) ^ b) = ((2 ^ b : Nat) : Int) := by rw [Int.natCast_pow]; rfl
      rw [e] at q2
      exact Int.ofNat_lt.mp q2
    · exact all_iL h'.2 x hx
theorem natural_nat {z : Int} {b : Nat} (h : Sh60Neutral.natural z b = true) : ∃ n : Nat, z = n ∧ n < 2 ^ b := by
  unfold Sh60Neutral.natural at h
  rw [Bool.and_eq_true] at h
  have h0 := of_decide_eq_true h.1
  have h1 := of_decide_eq_true h.2
  obtain ⟨n, rfl⟩ := Int.eq_ofNat_of_zero_le h0
  have e : ((2 : Int) ^ b) = ((2 ^ b : Nat) : Int) := by rw [Int.natCast_pow]; rfl
  rw [e] at h1
  exact ⟨n, rfl, Int.ofNat_lt.mp h1⟩
theorem nats_of {b : Nat} (l : List Int) (h : l.all (fun z => Sh60Neutral.natural z b) = true) : ∃ xs : List Nat, l = iL xs ∧ ∀ x ∈ xs, x < 2 ^ b := by
  refine ⟨l.map Int.toNat, ?_, ?_⟩
  · refine iL_of l fun z hz => ?_
    obtain ⟨n, rfl, _⟩ := natural_nat (List.all_eq_true.mp h z hz)
    exact Int.natCast_nonneg n
  · intro x hx
    obtain ⟨z, hz, rfl⟩ := List.mem_map.mp hx
    obtain ⟨n, rfl, hn⟩ := natural_nat (List.all_eq_true.mp h z hz)
    exact hn
end Lt
namespace Lt
open Sh60 (num glyph glyphs SIDE starts)

/-! ### rows of one length, one behind the other -/
theorem grid_len {α : Type} (f : Nat → Nat → α) (k : Nat) : ∀ n, ((List.range n).flatMap fun j => (List.range k).map (f j)).length = k * n
  | 0 => rfl
  | n + 1 => by
    rw [List.range_succ, List.flatMap_append, List.length_append, grid_len f k n, List.flatMap_cons, List.flatMap_nil, List.append_nil, List.length_map, List.length_range, Nat.mul_succ]
theorem grid_get {α : Type} (f : Nat → Nat → α) (k : Nat) : ∀ n j i, j < n → i < k → ((List.range n).flatMap fun j => (List.range k).map (f j))[k * j + i]? = some (f j i)
  | 0, j, i, h, _ => by omega
  | n + 1, j, i, h, hi => by
    rw [List.range_succ, List.flatMap_append, List.flatMap_cons, List.flatMap_nil, List.append_nil]
    by_cases e : j < n
    · rw [List.getElem?_append_left, grid_get f k n j i e hi]
      rw [grid_len]
      have : k * (j + 1) ≤ k * n := Nat.mul_le_mul_left k e
      rw [Nat.mul_succ] at this
      omega
    · have e' : j = n := by omega
      subst e'
      rw [List.getElem?_append_right (by rw [grid_len]; omega), grid_len, Nat.add_sub_cancel_left, List.getElem?_map, List.getElem?_range hi]
      rfl
theorem glyph_at (g : List Nat) {j i : Nat} (hj : j < 16) (hi : i < 16) : (glyph g).getD (16 * j + i) false = (num g j).testBit i := by
  have h : (glyph g)[16 * j + i]? = some (num g j / 2 ^ i % 2 == 1) := grid_get (fun j i => num g j / 2 ^ i % 2 == 1) 16 16 j i hj hi
  rw [List.getD_eq_getElem?_getD, h, Option.getD_some, bitOf]
/-- filter's length over such rows -/
theorem count_rows {α : Type} (p : α → Bool) (F : Nat → List α) : ∀ l : List Nat, ((l.flatMap F).filter p).length = (l.map fun j => ((F j).filter p).length).sum
  | [] => rfl
  | a :: r => by
    rw [List.flatMap_cons, List.filter_append, List.length_append, count_rows p F r, List.map_cons, List.sum_cons]
theorem zip_rows {α β : Type} (F : Nat → List α) (G : Nat → List β) (h : ∀ j, (F j).length = (G j).length) : ∀ l : List Nat, (l.flatMap F).zip (l.flatMap G) = l.flatMap fun j => (F j).zip (G j)
  | [] => rfl
  | a :: r => by
    rw [List.flatMap_cons, List.flatMap_cons, List.flatMap_cons, List.zip_append (h a), zip_rows F G h r]
theorem zip_same {α β γ : Type} (f : γ → α) (g : γ → β) : ∀ l : List γ, (l.map f).zip (l.map g) = l.map fun x => (f x, g x)
  | [] => rfl
  | a :: r => by
    rw [List.map_cons, List.map_cons, List.map_cons, List.zip_cons_cons, zip_same f g r]
theorem cnt_map {α : Type} (k : Nat) (f : Nat → α) (p : α → Bool) : (((List.range k).map f).filter p).length = cnt k fun i => p (f i) := by
  rw [List.filter_map, List.length_map]
  rfl

/-! ### lt_apart -/
theorem apart_is (a b : List Nat) (ha : ∀ j, j < 16 → num a j < 65536) (hb : ∀ j, j < 16 → num b j < 65536) :
    Sh60.apart (glyph a) (glyph b) = ((List.range 16).map fun j => pop (num a j ^^^ num b j)).sum := by
  unfold Sh60.apart glyph
  rw [zip_rows _ _ (fun j => by rw [List.length_map, List.length_map]), count_rows]
  refine congrArg List.sum (List.map_congr_left fun j hj => ?_)
  have hj' : j < 16 := List.mem_range.mp hj
  rw [zip_same, cnt_map, pop_cnt 16 _ (Nat.xor_lt_two_pow (ha j hj') (hb j hj'))]
  refine cnt_congr fun i _ => ?_
  rw [bitOf, bitOf, Nat.testBit_xor]

/-! ### lt_crossings -/
def runs (w : Nat) : Nat := pop (w - (w &&& (2 * w)))
theorem starts_is (l : List Bool) : starts l = runs (word l) := by
  unfold starts runs
  rw [pop_cnt l.length _ (Nat.lt_of_le_of_lt (Nat.sub_le _ _) (word_lt l))]
  show cnt l.length _ = _
  refine cnt_congr fun i _ => ?_
  rw [testBit_less, word_bit]
  refine congrArg (l.getD i false && ·) ?_
  cases i with
  | zero =>
    rw [Nat.testBit_zero, Nat.mul_mod_right]
    rfl
  | succ i =>
    rw [Nat.testBit_succ, Nat.mul_div_cancel_left _ (by omega), word_bit]
    rfl
theorem word_of_bits {n k : Nat} (h : n < 2 ^ k) : word ((List.range k).map n.testBit) = n := by
  refine Nat.eq_of_testBit_eq fun i => ?_
  rw [word_bit, List.getD_eq_getElem?_getD, List.getElem?_map]
  by_cases hi : i < k
  · rw [List.getElem?_range hi]
    rfl
  · rw [List.getElem?_eq_none (by rw [List.length_range]; omega)]
    exact (Nat.testBit_lt_two_pow (Nat.lt_of_lt_of_le h (Nat.pow_le_pow_right (by omega) (by omega)))).symm
/-- the columns' words -/
def column (g : List Nat) (i : Nat) : Nat := word (g.map fun r => r.testBit i)
theorem map_num {α : Type} (f : Nat → α) (g : List Nat) (h : g.length = 16) : (List.range 16).map (fun j => f (num g j)) = g.map f := by
  refine List.ext_getElem? fun j => ?_
  rw [List.getElem?_map, List.getElem?_map]
  by_cases hj : j < 16
  · rw [List.getElem?_range hj, List.getElem?_eq_getElem (show j < g.length by omega)]
    show some (f (g.getD j 0)) = _
    rw [List.getD_eq_getElem?_getD, List.getElem?_eq_getElem (show j < g.length by omega)]
    rfl
  · rw [List.getElem?_eq_none (by rw [List.length_range]; omega), List.getElem?_eq_none (show g.length ≤ j by omega)]
    rfl
theorem crossings_is (g : List Nat) (hl : g.length = 16) (hg : ∀ x ∈ g, x < 65536) :
    Sh60.crossings (glyph g) = (g ++ (List.range 16).map (column g)).map runs := by
  unfold Sh60.crossings
  rw [List.map_append, List.map_map]
  refine congr (congrArg HAppend.hAppend ?_) ?_
  · rw [← map_num runs g hl]
    refine List.map_congr_left fun j hj => ?_
    have hj' : j < 16 := List.mem_range.mp hj
    rw [starts_is]
    refine congrArg runs ?_
    have hn : num g j < 2 ^ 16 := by
      unfold num
      rw [List.getD_eq_getElem?_getD, List.getElem?_eq_getElem (show j < g.length by omega)]
      exact hg _ (List.getElem_mem _)
    refine Eq.trans ?_ (word_of_bits hn)
    refine congrArg word (List.map_congr_left fun i hi => ?_)
    exact glyph_at g hj' (List.mem_range.mp hi)
  · refine List.map_congr_left fun i hi => ?_
    have hi' : i < 16 := List.mem_range.mp hi
    rw [starts_is]
    show runs _ = runs (column g i)
    unfold column
    rw [← map_num (fun r => r.testBit i) g hl]
    refine congrArg runs (congrArg word (List.map_congr_left fun j hj => ?_))
    exact glyph_at g (List.mem_range.mp hj) hi'

/-! ### what is due of lt_apart -/
def far (xs ys : List Nat) : Nat := ((xs.zip ys).map fun p => pop (p.1 ^^^ p.2)).sum
def letter (xs : List Nat) (k : Nat) : List Nat := (xs.drop (16 * k)).take 16
theorem num_lt {l : List Nat} {B : Nat} (h : ∀ x ∈ l, x < B) {j : Nat} (hj : j < l.length) : num l j < B := by
  unfold num
  rw [List.getD_eq_getElem?_getD, List.getElem?_eq_getElem hj]
  exact h _ (List.getElem_mem _)
theorem apart_far (L ys : List Nat) (hL : L.length = 16) (hy : ys.length = 16) (bL : ∀ x ∈ L, x < 65536) (bY : ∀ x ∈ ys, x < 65536) : Sh60.apart (glyph ys) (glyph L) = far L ys := by
  rw [apart_is ys L (fun j hj => num_lt bY (by omega)) (fun j hj => num_lt bL (by omega))]
  unfold far
  refine congrArg List.sum (List.ext_getElem? fun j => ?_)
  rw [List.getElem?_map, List.getElem?_map]
  by_cases hj : j < 16
  · have e : (L.zip ys)[j]? = some (L[j]'(by omega), ys[j]'(by omega)) := List.getElem?_zip_eq_some.mpr ⟨List.getElem?_eq_getElem _, List.getElem?_eq_getElem _⟩
    rw [List.getElem?_range hj, e]
    show some (pop (ys.getD j 0 ^^^ L.getD j 0)) = _
    rw [List.getD_eq_getElem?_getD, List.getD_eq_getElem?_getD, List.getElem?_eq_getElem (show j < L.length by omega), List.getElem?_eq_getElem (show j < ys.length by omega)]
    show some (pop (ys[j] ^^^ L[j])) = some (pop (L[j] ^^^ ys[j]))
    rw [Nat.xor_comm]
  · rw [List.getElem?_eq_none (by rw [List.length_range]; omega), List.getElem?_eq_none (by rw [List.length_zip]; omega)]
    rfl
theorem letter_len {xs : List Nat} {n k : Nat} (h : xs.length = 16 * n) (hk : k < n) : (letter xs k).length = 16 := by
  unfold letter
  rw [List.length_take, List.length_drop]
  omega
theorem letter_mem {xs : List Nat} {k x : Nat} (h : x ∈ letter xs k) : x ∈ xs := List.mem_of_mem_drop (List.mem_of_mem_take h)
theorem some_is (n : Nat) : Sh60.some_ n = (decide (1 ≤ n) && decide (n ≤ 256)) := rfl
theorem due_apart (font a : List Int) (h : PySh60.lt_apart_asked font a = true) : ∃ (xs ys : List Nat) (n : Nat), font = iL xs ∧ a = iL ys ∧ xs.length = 16 * n ∧ ys.length ≤ 16 ∧
    PySh60.lt_apart font a = if Sh60.some_ n = true then 0 :: iL ((List.range n).map fun k => far (letter xs k) ys) else [-2] := by
  have h1 : Sh60Neutral.asked1 [[3], font, a] = true := (Bool.and_eq_true _ _ ▸ (show (Sh60Neutral.asked1 [[3], font, a] && _) = true from h)).1
  have h2 : (font.all (fun z => Sh60Neutral.natural z 16) && (a.all (fun z => Sh60Neutral.natural z 16) && (if Sh60.some_ ((Sh60Neutral.nats font).length / 16) = true then font.length == (16 * ((Sh60Neutral.nats font).length / 16)) && a.length == 16 else (font.isEmpty && a.isEmpty) || (font.length == (16 * ((Sh60Neutral.nats font).length / 16)) && a.length == 16)))) = true := h1
  rw [Bool.and_eq_true, Bool.and_eq_true] at h2
  obtain ⟨b1, b2, b3⟩ := h2
  obtain ⟨xs, rfl, hx⟩ := nats_of font b1
  obtain ⟨ys, rfl, hy⟩ := nats_of a b2
  rw [nats_iL, iL_length, iL_length] at b3
  have due : PySh60.lt_apart (iL xs) (iL ys) = Sh60Neutral.told (Sh60.answer (if Sh60.some_ ((Sh60Neutral.nats (iL xs)).length / 16) = true then .apart (Sh60Neutral.nats (iL xs)) (Sh60Neutral.nats (iL ys)) else .bad)) := rfl
  rw [nats_iL, nats_iL] at due
  refine ⟨xs, ys, xs.length / 16, rfl, rfl, ?_, ?_, ?_⟩
  · split at b3
    · simp only [Bool.and_eq_true, beq_iff_eq] at b3
      omega
    · simp only [Bool.or_eq_true, Bool.and_eq_true, beq_iff_eq] at b3
      rcases b3 with ⟨z, _⟩ | ⟨z, _⟩
      · have : xs = [] := by
          cases xs with
          | nil => rfl
          | cons c r => cases z
        subst this
        rfl
      · omega
  · split at b3
    · simp only [Bool.and_eq_true, beq_iff_eq] at b3
      omega
    · simp only [Bool.or_eq_true, Bool.and_eq_true, beq_iff_eq] at b3
      rcases b3 with ⟨_, z⟩ | ⟨_, z⟩
      · have : ys = [] := by
          cases ys with
          | nil => rfl
          | cons c r => cases z
        subst this
        exact Nat.zero_le _
      · omega
  · rw [due]
    by_cases c : Sh60.some_ (xs.length / 16) = true
    · rw [if_pos c, if_pos c]
      rw [if_pos c] at b3
      simp only [Bool.and_eq_true, beq_iff_eq] at b3
      show (0 : Int) :: iL ((glyphs xs).map (Sh60.apart (glyph ys))) = _
      refine congrArg (fun l => (0 : Int) :: iL l) ?_
      unfold Sh60.glyphs
      rw [List.map_map]
      refine List.map_congr_left fun k hk => ?_
      have hk' : k < xs.length / 16 := List.mem_range.mp hk
      exact apart_far (letter xs k) ys (letter_len b3.1 hk') b3.2 (fun x hx' => hx x (letter_mem hx')) hy
    · rw [if_neg c, if_neg c]
      rfl

/-! ### what is due of lt_crossings -/
theorem due_crossings (a : List Int) (h : PySh60.lt_crossings_asked a = true) : ∃ xs : List Nat, a = iL xs ∧ xs.length = 16 ∧ (∀ x ∈ xs, x < 65536) ∧
    PySh60.lt_crossings a = 0 :: iL ((xs ++ (List.range 16).map (column xs)).map runs) := by
  have h1 : Sh60Neutral.asked1 [[2], a] = true := (Bool.and_eq_true _ _ ▸ (show (Sh60Neutral.asked1 [[2], a] && _) = true from h)).1
  have h2 : (a.all (fun z => Sh60Neutral.natural z 16) && (a.length == 16)) = true := h1
  rw [Bool.and_eq_true] at h2
  obtain ⟨xs, rfl, hx⟩ := nats_of a h2.1
  have hl : xs.length = 16 := by
    have := h2.2
    rw [iL_length, beq_iff_eq] at this
    exact this
  refine ⟨xs, rfl, hl, hx, ?_⟩
  rw [← crossings_is xs hl hx]
  show (0 : Int) :: iL (Sh60.crossings (glyph (Sh60Neutral.nats (iL xs)))) = _
  rw [nats_iL]
end Lt
set_option linter.all false
set_option maxRecDepth 100000
set_option maxHeartbeats 4000000
namespace Lt
open PySem PySem.Spec PyProof.Rows L2

/-! ### lists of numbers as values -/
abbrev nV (n : Nat) : V := .int (n : Int)
theorem nV_iL (l : List Nat) : l.map nV = (iL l).map V.int := by
  unfold iL
  rw [List.map_map]
  rfl
/-! ### heaps -/
theorem same_upd {H : Hp} {p : Addr} {o : HO} (h : H p = none) : Same H (upd H p o) := fun b x e => by
  rw [upd_ne (ne_of_none e h)]
  exact e
/-- a store to p, which was not there at the start -/
theorem Same.put {H H' : Hp} {p : Addr} {o : HO} (s : Same H H') (h : H p = none) : Same H (upd H' p o) := fun b x e => by
  rw [upd_ne (ne_of_none e h)]
  exact s b x e
/-- all but B stands -/
def Keep (B : Addr) (H H' : Hp) : Prop := ∀ b o, b ≠ B → H b = some o → H' b = some o
theorem Keep.of {B : Addr} {H H' : Hp} (s : Same H H') : Keep B H H' := fun b o _ e => s b o e
theorem Keep.trans {B : Addr} {H H1 H2 : Hp} (a : Keep B H H1) (b : Keep B H1 H2) : Keep B H H2 := fun c o h e => b c o h (a c o h e)
theorem Keep.put {B : Addr} {H H' : Hp} {o : HO} (s : Keep B H H') : Keep B H (upd H' B o) := fun b x h e => by
  rw [upd_ne h]
  exact s b x h e
theorem Same.keep {B : Addr} {H H1 H2 : Hp} (a : Same H H1) (hB : H B = none) (b : Keep B H1 H2) : Same H H2 := fun c o e => b c o (ne_of_none e hB) (a c o e)

/-! ### list + list, wherever both are to be read -/
def rCatS (K : PySem.W.Frag) : R2 := fun x y H Q => ∃ l b xs zs, x = .ref l ∧ y = .ref b ∧ SqL K H l xs ∧ SqL K H b zs ∧ xs.length + zs.length ≤ sizeLine ∧ ∀ p, H p = none → Q (.ref p) (upd H p (.lst (xs ++ zs)))
theorem op_catS {X : Cx} : OpR X (binaryOp .Add) (rCatS X.K) := by
  intro pn st sl Hp1 x y v u Qv Inv1 rx ry hyp
  obtain ⟨p1, p2, ls1, ls2, rfl, rfl, in1, in2, room, goes⟩ := hyp
  cases rx
  cases ry
  obtain ⟨vs1, val1, ⟨⟨cls, dd, data, slots1⟩, n1, get1, hc, hd, hs⟩, _⟩ := Inv1.list in1
  obtain ⟨vs2, val2, ⟨⟨cls2, dd2, data2, slots2⟩, n2, get2, hc2, hd2, hs2⟩, _⟩ := Inv1.list in2
  simp only at hc hd hs hc2 hd2 hs2
  subst hc hd hs hc2 hd2 hs2
  have len1 := val1.length
  have len2 := val2.length
  refine concat_meets ⟨_, get1, rfl⟩ ⟨_, get2, rfl⟩ noFill_list_add seq_list_add PySem.F.slot_list_add PySem.F.entry_list_add (PySem.F.args_list_add_2 _ _)
    (list_addW p1 p2 vs1.toArray vs2.toArray n1 n2 none none slots1 slots2 (by rw [List.size_toArray, List.size_toArray]; omega)) ⟨get1, get2, ?_⟩
  have glued : vs1.toArray ++ vs2.toArray = (vs1 ++ vs2).toArray := by simp
  rw [glued]
  refine ⟨.ref _, _, Inv1.lnew (t' := st.toks) (val1.append val2) ?_, rfl, goes _ Inv1.fresh⟩
  rw [List.length_append]
  omega

/-! ### range(0, c n, c) -/
theorem rgN (c n : Nat) (hc : 0 < c) (hc2 : c ≤ 64) (h : n ≤ 1000) : RgC 0 ((c * n : Nat) : Int) (c : Int) n := by
  have hb : c * n ≤ 64 * 1000 := Nat.mul_le_mul hc2 h
  have e : Builtin.Range.rangeSize 0 ((c * n : Nat) : Int) (c : Int) = n := by
    unfold Builtin.Range.rangeSize
    rw [if_pos (by omega)]
    cases n with
    | zero =>
      rw [Nat.mul_zero, if_neg (by omega)]
      rfl
    | succ m =>
      rw [Nat.mul_succ, if_pos (by omega), show (((c * m + c : Nat) : Int) - 0 - 1) = ((c * m + (c - 1) : Nat) : Int) by omega, ← Int.natCast_ediv, Nat.mul_add_div hc, Nat.div_eq_of_lt (by omega)]
      omega
  refine ⟨by omega, by omega, ?_, e⟩
  unfold Builtin.Range.small
  rw [e]
  generalize c * n = z at *
  have fit : ∀ i : Int, 0 ≤ i → i < 100000 → Builtin.Range.rangeFitsLong i = true := fun i h0 h1 => by
    have p : (100000 : Int) ≤ 2 ^ 63 := by decide
    have p0 : (0 : Int) ≤ 2 ^ 63 := by decide
    unfold Builtin.Range.rangeFitsLong
    generalize (2 : Int) ^ 63 = z at *
    rw [decide_eq_true (show -z ≤ i by omega), decide_eq_true (show i < z by omega)]
    rfl
  rw [fit 0 (by omega) (by omega), fit _ (show 0 ≤ (z : Int) by omega) (by omega), fit c (by omega) (by omega), fit n (by omega) (by omega), if_pos (by omega), fit _ (show 0 ≤ (z : Int) + ((c : Int) - 1) by omega) (by omega), Bool.or_true]
  rfl
theorem and_nat (a b : Nat) : Builtin.bitAnd (a : Int) (b : Int) = ((a &&& b : Nat) : Int) := by
  have ha := Int.natCast_nonneg a
  rw [bitAnd_pp ha (Int.natCast_nonneg b), Int.toNat_natCast, Int.toNat_natCast]
theorem xor_nat (a b : Nat) : Builtin.bitXor (a : Int) (b : Int) = ((a ^^^ b : Nat) : Int) := by
  rw [Bits.bitXor_pp (Int.natCast_nonneg a) (Int.natCast_nonneg b), Int.toNat_natCast, Int.toNat_natCast]
/-- number & number - 1 -/
theorem clear_int (m : Nat) (h : 0 < m) : Builtin.bitAnd (m : Int) ((m : Int) - 1) = ((m &&& (m - 1) : Nat) : Int) := by
  rw [show ((m : Int) - 1) = ((m - 1 : Nat) : Int) by omega, and_nat]
/-- an item of a mapped list -/
theorem map_at {α β : Type} {f : α → β} {l : List α} {i : Nat} {y : β} (h : (l.map f)[i]? = some y) : ∃ x, l[i]? = some x ∧ y = f x := by
  rw [List.getElem?_map] at h
  cases e : l[i]? with
  | none =>
    rw [e] at h
    cases h
  | some x =>
    rw [e] at h
    exact ⟨x, rfl, (Option.some.inj h).symm⟩
theorem take_snoc {α : Type} {l : List α} {i : Nat} {x : α} (h : l[i]? = some x) : l.take (i + 1) = l.take i ++ [x] := by
  rw [List.take_add_one, h]
  rfl
theorem range_take {n i : Nat} (h : i ≤ n) : (List.range n).take i = List.range i := by
  rw [List.take_range, Nat.min_eq_left h]
/-- a comprehension without a test: its item is made -/
theorem yes {σ : L2.St} {H : Hp} {A B : Bool → Hp → Prop} (h : A true H) : tYes σ H fun b H3 => if b = true then A b H3 else B b H3 := by
  show if true = true then A true H else B true H
  rw [if_pos rfl]
  exact h
theorem smallL {n : Nat} (h : n ≤ 70000) : n < sizeLine := Nat.lt_of_le_of_lt h (by decide)
theorem smallE {n : Nat} (h : n ≤ 70000) : n ≤ sizeLine := Nat.le_of_lt (smallL h)

/-! ### bits -/
abbrev bV (b : Bool) : V := .int (b.toNat : Int)
theorem or_word (bs : List Bool) (i : Nat) (b : Bool) (h : bs[i]? = some b) : Builtin.bitOr ((word (bs.take i) : Nat) : Int) ((b.toNat : Int) * 2 ^ ((i : Nat) : Int).toNat) = ((word (bs.take (i + 1)) : Nat) : Int) := by
  have hl : (bs.take i).length = i := by
    rw [List.length_take]
    have := (List.getElem?_eq_some_iff.mp h).1
    omega
  have w := word_lt (bs.take i)
  rw [hl] at w
  rw [Int.toNat_natCast, Bits.bitOr_join (Int.natCast_nonneg _) (by
    rw [show ((2 : Int) ^ i) = ((2 ^ i : Nat) : Int) by rw [Int.natCast_pow]; rfl]
    exact Int.ofNat_lt.mpr w) (Int.natCast_nonneg _), take_snoc h, word_snoc, hl, Int.natCast_add, Int.natCast_mul, Int.natCast_pow]
  rfl
/-- n & ~(n << 1) -/
theorem less_int (n : Nat) : Builtin.bitAnd (n : Int) (Builtin.bitNot ((n : Int) * 2 ^ (1 : Int).toNat)) = ((n - (n &&& (2 * n)) : Nat) : Int) := by
  have e : (n : Int) * 2 ^ (1 : Int).toNat = ((2 * n : Nat) : Int) := by
    show (n : Int) * 2 = _
    omega
  rw [e]
  have h1 : decide ((0 : Int) ≤ (n : Int)) = true := decide_eq_true (Int.natCast_nonneg n)
  have h2 : decide ((0 : Int) ≤ Builtin.bitNot ((2 * n : Nat) : Int)) = false := decide_eq_false (by
    unfold Builtin.bitNot
    omega)
  have h3 : Builtin.bitNot (Builtin.bitNot ((2 * n : Nat) : Int)) = ((2 * n : Nat) : Int) := by
    unfold Builtin.bitNot
    omega
  unfold Builtin.bitAnd
  rw [h1, h2]
  show (n : Int) - ((((n : Int)).toNat &&& (Builtin.bitNot (Builtin.bitNot ((2 * n : Nat) : Int))).toNat : Nat) : Int) = _
  rw [h3, Int.toNat_natCast, Int.toNat_natCast]
  have : n &&& (2 * n) ≤ n := Nat.and_le_left
  omega
theorem bit_int (r i : Nat) : Builtin.bitAnd ((r : Int) / 2 ^ i) 1 = ((r.testBit i).toNat : Int) := by
  rw [bitAnd_m1, Nat.toNat_testBit, Int.natCast_emod, Int.natCast_ediv, Int.natCast_pow]
  rfl
/-! ### a slice -/
theorem cut_nat {xs : List V} {a b : Nat} {x y : Int} (ex : x = a) (ey : y = b) (hab : a ≤ b) (hb : b ≤ xs.length) : cutV xs (some x) (some y) = (xs.drop a).take (b - a) := by
  subst ex ey
  unfold cutV
  rw [HT.sIx_nat, HT.sIx_nat, Nat.min_eq_left hb, Nat.min_eq_left (by omega)]
end Lt
namespace Lt
open PySem PySem.Spec PyProof.Rows L2
open PySem.W (Codec)
def top (i : Nat) : Stmt := PySem.Challenge.pw_likelettersdesk_s04_lt_apart.main.body.getD i (.Pass ⟨0, 0, 0, 0⟩)
abbrev sSize : Stmt := top 1
abbrev sOnes : Stmt := top 2
abbrev sPart : Stmt := top 3
abbrev sLet : Stmt := top 4
abbrev sFar : Stmt := top 5
abbrev sApart : Stmt := top 6
section
variable {P : Program} {w : World} {K : PySem.W.Frag} {mg : Str → Option Value} {base : Heap}
theorem scZ : FnScope ["number"] ["number"] (defScope sSize) := ⟨rfl, rfl, rfl, by decide +kernel, rfl, by decide +kernel, by decide +kernel⟩
/-! ### is_size -/
def sizeOk (z : Int) : Bool := decide (1 ≤ z) && decide (z ≤ 256)
def spSize : Sp := fun vs H Q _ => ∃ z : Int, vs = [.int z] ∧ Q (.bl (sizeOk z)) H
theorem ok_size {f : Addr} {fd : FuncData} (F : Fun K "is_size" "is_size" sSize f fd) : FnOk P w K mg base CX0 1 f fd ["number"] spSize := by
  refine F.ok scZ (fun vs H Q E h => ?_) (fun cdv A outer s H vs Q E hr h => ?_)
  · obtain ⟨z, rfl, _⟩ := h
    rfl
  · obtain ⟨z, rfl, q⟩ := h
    refine ⟨_, pss_one (ps_ret (pe_chain op_le op_le pe_int (pv 0) pe_int)), ?_⟩
    refine ⟨_, rfl, _, _, rfl, rfl, _, rfl, ?_⟩
    unfold sizeOk at q
    by_cases e : (1 : Int) ≤ z
    · rw [decide_eq_true e] at q ⊢
      refine iteT ⟨_, _, rfl, rfl, ?_⟩
      rw [Bool.true_and] at q
      exact q
    · rw [decide_eq_false e] at q ⊢
      exact iteF q
theorem scO : FnScope ["number", "ones"] ["number"] (defScope sOnes) := ⟨rfl, rfl, rfl, by decide +kernel, rfl, by decide +kernel, by decide +kernel⟩
/-! ### count_ones -/
def spOnes : Sp := fun vs H Q _ => ∃ n : Nat, vs = [nV n] ∧ Q (nV (pop n)) H
theorem ok_ones {f : Addr} {fd : FuncData} (F : Fun K "count_ones" "count_ones" sOnes f fd) : FnOk P w K mg base CX0 1 f fd ["number"] spOnes := by
  refine F.ok scO (fun vs H Q E h => ?_) (fun cdv A outer s H vs Q E hr h => ?_)
  · obtain ⟨n, rfl, _⟩ := h
    rfl
  · obtain ⟨n, rfl, q⟩ := h
    refine ⟨_, pss_cons (ps_set (i := 1) scO.nd rfl (.inl rfl) pe_int)
      (pss_cons (ps_while PassesOwn.never (pt_cmpR op_gt (pv 0) pe_int (nomark _))
        (pss_cons (ps_set (i := 0) scO.nd rfl (.inl rfl) (pe_op op_and (pv 0) (pe_op op_sub (pv 0) pe_int)))
          (pss_one (ps_aug (i := 1) scO.nd rfl (.inl rfl) pe_int ip_add))))
      (pss_one (ps_ret (pv 1)))), ?_⟩
    refine ⟨fun m σ H' => ∃ c : Nat, σ = [some (nV m), some (nV c)] ∧ c + pop m = pop n ∧ H' = H, ⟨n, 0, rfl, by omega, rfl⟩, ?_⟩
    rintro m σ _ ⟨c, rfl, ec, rfl⟩
    refine ⟨_, rfl, _, _, rfl, rfl, _, rfl, ite2 (fun e => ?_) (fun e => ?_)⟩
    · have hm : 0 < m := by
        have := of_decide_eq_true e
        omega
      refine ⟨fun σ' H' => ∃ c' : Nat, σ' = [some (nV (m &&& (m - 1))), some (nV c')] ∧ c' + pop (m &&& (m - 1)) = pop n ∧ H' = _, fun σ' H' hN => ⟨_, clear_lt hm, hN⟩, ?_⟩
      refine ⟨_, rfl, _, rfl, _, _, rfl, rfl, _, _, rfl, rfl, ?_⟩
      refine ⟨_, rfl, _, _, rfl, rfl, ?_⟩
      refine ⟨c + 1, ?_, ?_, rfl⟩
      · show [some (V.int (Builtin.bitAnd (m : Int) ((m : Int) - 1))), some (V.int ((c : Int) + 1))] = _
        rw [clear_int m hm]
        rfl
      · have := pop_clear m hm
        omega
    · have hm : m = 0 := by
        have := of_decide_eq_false (Bool.not_eq_true _ ▸ e)
        omega
      subst hm
      rw [pop_zero, Nat.add_zero] at ec
      subst ec
      exact ⟨_, rfl, q⟩
theorem scPa : FnScope ["numbers", "length", "start"] ["numbers", "length"] (defScope sPart) := ⟨rfl, rfl, rfl, by decide +kernel, rfl, by decide +kernel, by decide +kernel⟩
/-! ### parts_of -/
def PartsAt (H : Hp) (p : Addr) (xs : List Nat) (c n : Nat) : Prop :=
  ∃ rs : List Addr, rs.length = n ∧ H p = some (.lst (rs.map V.ref)) ∧ ∀ (k : Nat) (r : Addr), rs[k]? = some r → H r = some (.lst (((xs.drop (c * k)).take c).map nV)) ∧ r ≠ p
def spPart (K : PySem.W.Frag) : Sp := fun vs H Q _ => ∃ (a : Addr) (xs : List Nat) (c n : Nat), vs = [.ref a, nV c] ∧ SqL K H a (xs.map nV) ∧ xs.length = c * n ∧ 0 < c ∧ c ≤ 64 ∧ n ≤ 257 ∧
  ∀ H' p, Same H H' → H p = none → PartsAt H' p xs c n → Q (.ref p) H'
theorem ok_part {f : Addr} {fd : FuncData} (F : Fun K "parts_of" "parts_of" sPart f fd) (mr : mg "range" = none) (ml : mg "len" = none) : FnOk P w K mg base CX0 1 f fd ["numbers", "length"] (spPart K) := by
  refine F.ok scPa (fun vs H Q E h => ?_) (fun cdv A outer s H vs Q E hr h => ?_)
  · obtain ⟨a, xs, c, n, rfl, _⟩ := h
    rfl
  · obtain ⟨a, xs, c, n, rfl, hx, hl, hc, hc2, hn, q⟩ := h
    refine ⟨_, pss_one (ps_ret (pe_lc (own := [("start", 2)]) (g := gName 2) (tt := tYes) rfl scPa.nd
      (pi_range3 (by rfl) mr (pa_cons pe_int (pa_cons (pe_callB call_len_seq (by rfl) ml PySem.boot_len (pa_cons (pv 0) pa_nil)) (pa_cons (pv 1) pa_nil))))
      (blkOk_by (N := ["numbers", "length", "start"]) (sc := defScope sPart) (by decide +kernel))
      (fun _ _ _ _ _ => pg_name (i := 2) scPa.nd rfl (.inl rfl) (.inr rfl)) (fun _ _ _ _ _ => pts_nil)
      (fun _ _ _ _ _ => pe_slice (r := rSlL K) sl_list (pv 0) (po_some (pv 2)) (po_some (pe_op op_add (pv 2) (pv 1)))))), ?_⟩
    refine ⟨_, rfl, a, _, rfl, .inl hx, _, rfl, _, _, _, n, rfl, by rw [List.length_map, hl]; exact rgN c n hc hc2 (by omega), fun D hD => ?_⟩
    refine lc_it walk_rangeC (fun i H' => Same H H' ∧ PartsAt H' D xs c i) ⟨same_upd hD, [], rfl, upd_same, fun k r hk => by cases hk⟩ (fun _ _ _ _ => trivial) ?_ ?_
    · rintro i x H1 _ hi ⟨sm, rs, hrs, eD, er⟩ ⟨rfl, rfl⟩
      have hz : (xs.map nV).length = c * n := by rw [List.length_map, hl]
      refine ⟨rfl, yes ?_⟩
      refine ⟨_, rfl, _, rfl, _, rfl, _, rfl, _, rfl, _, _, rfl, rfl, _, rfl, a, _, rfl, sm.seq hx, fun p hp => ?_⟩
      have hpD : D ≠ p := ne_of_none eD hp
      refine ⟨_, by rw [upd_ne hpD]; exact eD, ?_, fun b o e => ?_, rs ++ [p], ?_, ?_, fun k r hk => ?_⟩
      · rw [List.length_map, hrs]
        exact smallL (by omega)
      · rw [upd_ne (ne_of_none e hD), upd_ne (ne_of_none (sm b o e) hp)]
        exact sm b o e
      · rw [List.length_append, hrs]
        rfl
      · rw [upd_same, List.map_append]
        rfl
      · by_cases hki : k < i
        · rw [List.getElem?_append_left (by omega)] at hk
          obtain ⟨e1, e2⟩ := er k r hk
          refine ⟨?_, e2⟩
          rw [upd_ne e2, upd_ne (ne_of_none e1 hp)]
          exact e1
        · have hk2 : k = i := by
            have : k < (rs ++ [p]).length := (List.getElem?_eq_some_iff.mp hk).1
            rw [List.length_append, hrs] at this
            have : k < i + 1 := this
            omega
          subst hk2
          rw [List.getElem?_append_right (by omega), hrs, Nat.sub_self] at hk
          have e : p = r := Option.some.inj hk
          subst e
          refine ⟨?_, hpD.symm⟩
          rw [upd_ne hpD.symm, upd_same]
          have em : (k : Int) * (c : Int) = ((c * k : Nat) : Int) := by rw [Int.natCast_mul, Int.mul_comm]
          have st : c * k + c ≤ c * n := by
            have := Nat.mul_le_mul_left c (show k + 1 ≤ n from hi)
            rw [Nat.mul_succ] at this
            exact this
          rw [em]
          generalize c * k = z at *
          have q := cut_nat (xs := xs.map nV) (x := 0 + (z : Int)) (y := 0 + (z : Int) + c) (a := z) (b := z + c) (by omega) (by omega) (by omega) (by omega)
          refine congrArg (fun l => some (HO.lst l)) (q.trans ?_)
          rw [List.map_take, List.map_drop, Nat.add_sub_cancel_left]
    · rintro H1 ⟨sm, h⟩
      exact q H1 D sm hD h
theorem scL : FnScope ["font"] ["font"] (defScope sLet) := ⟨rfl, rfl, rfl, by decide +kernel, rfl, by decide +kernel, by decide +kernel⟩
/-! ### letters_of -/
def LettersAt (H : Hp) (p : Addr) (xs : List Nat) (n : Nat) : Prop :=
  ∃ rs : List Addr, rs.length = n ∧ H p = some (.lst (rs.map V.ref)) ∧ ∀ (k : Nat) (r : Addr), rs[k]? = some r → H r = some (.lst ((letter xs k).map nV)) ∧ r ≠ p
def spLet (K : PySem.W.Frag) : Sp := fun vs H Q _ => ∃ (a : Addr) (xs : List Nat) (n : Nat), vs = [.ref a] ∧ SqL K H a (xs.map nV) ∧ xs.length = 16 * n ∧ n ≤ 257 ∧
  ∀ H' p, Same H H' → H p = none → LettersAt H' p xs n → Q (.ref p) H'
theorem ok_let {f fp : Addr} {fd fdp : FuncData} (F : Fun K "letters_of" "letters_of" sLet f fd) (FP : Fun K "parts_of" "parts_of" sPart fp fdp) (bp : Binds K fdp ["numbers", "length"] []) (gp : mg "parts_of" = some (.ref fp)) (mr : mg "range" = none) (ml : mg "len" = none) : FnOk P w K mg base CX0 2 f fd ["font"] (spLet K) := by
  have GP : FnOk P w K mg base CX0 1 fp fdp ["numbers", "length"] (spPart K) := ok_part FP mr ml
  refine F.ok scL (fun vs H Q E h => ?_) (fun cdv A outer s H vs Q E hr h => ?_)
  · obtain ⟨a, xs, n, rfl, _⟩ := h
    rfl
  · obtain ⟨a, xs, n, rfl, hx, hl, hn, q⟩ := h
    have hr1 : Room 1 _ := hr
    refine ⟨_, pss_one (ps_ret (pe_call GP hr1 (by rfl) gp FP.kp bp .nil pass0 (pa_cons (pv 0) (pa_cons pe_int pa_nil)))), ?_⟩
    exact ⟨_, rfl, a, xs, 16, n, rfl, hx, hl, by decide, by decide, hn, fun H' p sm np hp => q H' p sm np hp⟩
theorem scF : FnScope ["a", "b", "row", "other"] ["a", "b"] (defScope sFar) := ⟨rfl, rfl, rfl, by decide +kernel, rfl, by decide +kernel, by decide +kernel⟩
/-! ### how_far -/
def spFar (K : PySem.W.Frag) : Sp := fun vs H Q _ => ∃ (a b : Addr) (xs ys : List Nat), vs = [.ref a, .ref b] ∧ SqL K H a (xs.map nV) ∧ SqL K H b (ys.map nV) ∧ xs.length ≤ 16 ∧
  ∀ H', Same H H' → Q (nV (far xs ys)) H'
theorem zip_at {α β : Type} : ∀ {xs : List α} {ys : List β} {i : Nat} {x : α} {y : β}, xs[i]? = some x → ys[i]? = some y → (xs.zip ys)[i]? = some (x, y) := by
  intro xs ys i x y h1 h2
  rw [List.getElem?_zip_eq_some]
  exact ⟨h1, h2⟩
theorem ok_far {f f1 : Addr} {fd fd1 : FuncData} (F : Fun K "how_far" "how_far" sFar f fd) (F1 : Fun K "count_ones" "count_ones" sOnes f1 fd1) (b1 : Binds K fd1 ["number"] []) (g1 : mg "count_ones" = some (.ref f1))
    (mz : mg "zip" = none) (ms : mg "sum" = none) : FnOk P w K mg base CX0 2 f fd ["a", "b"] (spFar K) := by
  have G1 : FnOk P w K mg base CX0 1 f1 fd1 ["number"] spOnes := ok_ones F1
  refine F.ok scF (fun vs H Q E h => ?_) (fun cdv A outer s H vs Q E hr h => ?_)
  · obtain ⟨a, b, xs, ys, rfl, _⟩ := h
    rfl
  · obtain ⟨a, b, xs, ys, rfl, hx, hy, hl, q⟩ := h
    have hr1 : Room 1 _ := hr
    refine ⟨_, pss_one (ps_ret (pe_callB (cr_sum rfl) (by rfl) ms (by decide +kernel) (pa_cons
      (pe_lc (own := [("row", 2), ("other", 3)]) (g := gTup K 2 (gCons (gName 2) (gCons (gName 3) gNil))) (tt := tYes) rfl scF.nd (pi_zip (by rfl) mz (pa_cons (pv 0) (pa_cons (pv 1) pa_nil))) (blkOk_by (N := ["a", "b", "row", "other"]) (sc := defScope sFar) (by decide +kernel))
        (fun _ _ _ _ _ => pg_tup rfl (pgs_cons (pg_name (i := 2) scF.nd rfl (.inl rfl) (.inr rfl)) (pgs_cons (pg_name (i := 3) scF.nd rfl (.inl rfl) (.inr rfl)) pgs_nil)))
        (fun _ _ _ _ _ => pts_nil)
        (fun _ _ _ _ _ => pe_call G1 hr1 rfl g1 F1.kp b1 .nil pass0 (pa_cons (pe_op op_xor (pv 2) (pv 3)) pa_nil))) pa_nil))), ?_⟩
    refine ⟨_, rfl, _, rfl, a, b, _, _, rfl, hx, hy, fun D hD => ?_⟩
    refine lc_it (walk_zip rfl) (fun i H' => Same H H' ∧ H' D = some (.lst (((xs.zip ys).take i).map fun p => nV (pop (p.1 ^^^ p.2))))) ⟨same_upd hD, upd_same⟩ (fun i H' _ p => ⟨p.1.seq hx, p.1.seq hy⟩) ?_ ?_
    · rintro i x H1 H2 hi ⟨sm, eD⟩ ⟨T, x1, x2, rfl, nT, rfl, e1, e2⟩
      obtain ⟨n1, i1, rfl⟩ := map_at e1
      obtain ⟨n2, i2, rfl⟩ := map_at e2
      have hT : D ≠ T := ne_of_none eD nT
      refine ⟨T, _, rfl, .inl (.inl upd_same), rfl, _, _, rfl, _, _, rfl, rfl, ?_⟩
      refine ⟨rfl, yes ?_⟩
      refine ⟨_, rfl, _, rfl, _, _, rfl, rfl, n1 ^^^ n2, ?_, _, by rw [upd_ne hT]; exact eD, ?_, fun b o e => ?_, ?_⟩
      · show [V.int (Builtin.bitXor (n1 : Int) (n2 : Int))] = _
        rw [xor_nat]
      · rw [List.length_map, List.length_take, List.length_zip]
        exact smallL (by omega)
      · rw [upd_ne (ne_of_none e hD), upd_ne (ne_of_none (sm b o e) nT)]
        exact sm b o e
      · rw [upd_same, take_snoc (zip_at i1 i2), List.map_append]
        rfl
    · rintro H1 ⟨sm, eD⟩
      refine ⟨D, iL ((xs.zip ys).map fun p => pop (p.1 ^^^ p.2)), rfl, ?_, ?_⟩
      · rw [← nV_iL, List.map_map]
        rw [List.take_of_length_le (by rw [List.length_zip, List.length_map, List.length_map]; omega)] at eD
        exact .inl (.inl eD)
      · rw [iL_sum]
        exact q H1 sm
theorem scA : FnScope ["font", "a", "letters", "letter"] ["font", "a"] (defScope sApart) := ⟨rfl, rfl, rfl, by decide +kernel, rfl, by decide +kernel, by decide +kernel⟩
/-! ### lt_apart -/
def spApart (K : PySem.W.Frag) : Sp := fun vs H Q _ => ∃ (a b : Addr) (xs ys : List Nat) (n : Nat), vs = [.ref a, .ref b] ∧ SqL K H a (xs.map nV) ∧ SqL K H b (ys.map nV) ∧ xs.length = 16 * n ∧ n ≤ 257 ∧
  ∀ H' p, H' p = some (.lst ((if Sh60.some_ n = true then 0 :: iL ((List.range n).map fun k => far (letter xs k) ys) else [-2]).map V.int)) → Q (.ref p) H'
theorem ok_apart {f fz fl ff f1 fpa : Addr} {fd fdz fdl fdf fd1 fdpa : FuncData} (F : Fun K "lt_apart" "lt_apart" sApart f fd) (FZ : Fun K "is_size" "is_size" sSize fz fdz) (FL : Fun K "letters_of" "letters_of" sLet fl fdl) (FPa : Fun K "parts_of" "parts_of" sPart fpa fdpa) (FF : Fun K "how_far" "how_far" sFar ff fdf) (F1 : Fun K "count_ones" "count_ones" sOnes f1 fd1)
    (bz : Binds K fdz ["number"] []) (bl : Binds K fdl ["font"] []) (bpa : Binds K fdpa ["numbers", "length"] []) (bf : Binds K fdf ["a", "b"] []) (b1 : Binds K fd1 ["number"] [])
    (gz : mg "is_size" = some (.ref fz)) (gl : mg "letters_of" = some (.ref fl)) (gpa : mg "parts_of" = some (.ref fpa)) (gf : mg "how_far" = some (.ref ff)) (g1 : mg "count_ones" = some (.ref f1))
    (mz : mg "zip" = none) (ms : mg "sum" = none) (mr : mg "range" = none) (ml : mg "len" = none) : FnOk P w K mg base CX0 3 f fd ["font", "a"] (spApart K) := by
  have GZ : FnOk P w K mg base CX0 1 fz fdz ["number"] spSize := ok_size FZ
  have GL : FnOk P w K mg base CX0 2 fl fdl ["font"] (spLet K) := ok_let FL FPa bpa gpa mr ml
  have GF : FnOk P w K mg base CX0 2 ff fdf ["a", "b"] (spFar K) := ok_far FF F1 b1 g1 mz ms
  refine F.ok scA (fun vs H Q E h => ?_) (fun cdv A outer s H vs Q E hr h => ?_)
  · obtain ⟨a, b, xs, ys, n, rfl, _⟩ := h
    rfl
  · obtain ⟨a, b, xs, ys, n, rfl, hx, hy, hl, hn, q⟩ := h
    have hr1 : Room 1 _ := hr.mono (by decide)
    have hr2 : Room 2 _ := hr
    refine ⟨_, pss_cons (ps_set (i := 2) scA.nd rfl (.inl rfl) (pe_call GL hr2 (by rfl) gl FL.kp bl .nil pass0 (pa_cons (pv 0) pa_nil)))
      (pss_cons (ps_if (pt_not (pt_val (pe_call GZ hr1 (by rfl) gz FZ.kp bz .nil pass0 (pa_cons (pe_callB call_len_seq (by rfl) ml PySem.boot_len (pa_cons (pv 2) pa_nil)) pa_nil))))
        (pss_one (ps_ret (pe_lst (pa_cons (pe_un un_neg pe_int) pa_nil)))) pss_nil)
      (pss_one (ps_ret (pe_op op_catS (pe_lst (pa_cons pe_int pa_nil))
        (pe_lc (own := [("letter", 3)]) (g := gName 3) (tt := tYes) rfl scA.nd (pi_list (pv 2)) (blkOk_by (N := ["font", "a", "letters", "letter"]) (sc := defScope sApart) (by decide +kernel))
          (fun _ _ _ _ _ => pg_name (i := 3) scA.nd rfl (.inl rfl) (.inr rfl)) (fun _ _ _ _ _ => pts_nil)
          (fun _ _ _ _ _ => pe_call GF hr2 (by rfl) gf FF.kp bf .nil pass0 (pa_cons (pv 3) (pa_cons (pv 1) pa_nil)))))))), ?_⟩
    -- letters = letters_of(font)
    refine ⟨_, rfl, a, xs, n, rfl, hx, hl, hn, fun H1 p sm np hp => ?_⟩
    obtain ⟨rs, hrs, ep, er⟩ := hp
    have hS : SqL K H1 p (rs.map V.ref) := .inl (.inl ep)
    -- if not is_size(len(letters))
    refine ⟨_, rfl, p, _, rfl, .inl hS, _, rfl, _, rfl, ?_⟩
    have es : sizeOk (((rs.map V.ref).length : Nat) : Int) = Sh60.some_ n := by
      rw [List.length_map, hrs, some_is]
      unfold sizeOk
      refine congr (congrArg and ?_) ?_
      · exact decide_eq_decide.mpr (by omega)
      · exact decide_eq_decide.mpr (by omega)
    rw [es]
    by_cases c : Sh60.some_ n = true
    · rw [c]
      rw [if_pos c] at q
      refine iteF ?_
      -- [0] + [how_far(letter, a) for letter in letters]
      refine ⟨by show 1 ≤ sizeLine; decide, fun u hu => ?_⟩
      have s2 : Same H1 (upd H1 u (.lst [.int 0])) := same_upd hu
      refine ⟨_, rfl, p, rfl, ⟨_, s2.seq hS⟩, fun D hD => ?_⟩
      refine lc_it (walk_list (xs := rs.map V.ref)) (fun i H' => Same (upd H1 u (.lst [.int 0])) H' ∧ H' D = some (.lst (((List.range n).take i).map fun k => nV (far (letter xs k) ys)))) ⟨same_upd hD, upd_same⟩ (fun i H' _ h => h.1.seq (s2.seq hS)) ?_ ?_
      · rintro i x H2 _ hi ⟨sm2, eD⟩ ⟨rfl, ex⟩
        have hi' : i < n := by
          rw [List.length_map, hrs] at hi
          exact hi
        obtain ⟨r, hr, rfl⟩ := map_at ex
        obtain ⟨e1, e2⟩ := er i r hr
        refine ⟨rfl, yes ?_⟩
        refine ⟨_, rfl, _, rfl, r, b, letter xs i, ys, rfl, .inl (.inl (sm2 _ _ (s2 _ _ e1))), sm2.seq (s2.seq (sm.seq hy)), Nat.le_of_eq (letter_len hl hi'), fun H3 sm3 => ?_⟩
        refine ⟨_, sm3 _ _ eD, ?_, Same.put (sm2.trans sm3) hD, ?_⟩
        · rw [List.length_map, List.length_take, List.length_range]
          exact smallL (by omega)
        · rw [upd_same, take_snoc (List.getElem?_range hi'), List.map_append]
          rfl
      · rintro H2 ⟨sm2, eD⟩
        rw [List.take_of_length_le (by rw [List.length_range, List.length_map, hrs]; omega)] at eD
        refine ⟨u, D, _, _, rfl, rfl, .inl (.inl (sm2 _ _ upd_same)), .inl (.inl eD), ?_, fun v hv => ?_⟩
        · rw [List.length_map, List.length_range]
          exact smallE (by show 1 + n ≤ 70000; omega)
        · refine q _ v ?_
          rw [upd_same]
          refine congrArg (fun l => some (HO.lst l)) ?_
          show V.int 0 :: _ = V.int 0 :: _
          rw [← nV_iL, List.map_map]
          rfl
    · rw [Bool.not_eq_true] at c
      rw [c]
      rw [c] at q
      refine iteT ?_
      refine ⟨_, rfl, by show 1 ≤ sizeLine; decide, fun u hu => ?_⟩
      refine q _ u ?_
      rw [upd_same]
      rfl
end
/-! ### what the top has written -/
theorem all_mk {P : Program} {w : World} {K : PySem.W.Frag} {h : Heap} {mg : Str → Option Value} {fa f1 f2 f3 f4 f5 f6 : Addr} (X : K.In h) (G : h.Ns mainGlobals mg) (hfa : mg "lt_apart" = some (.ref fa))
    {od1 an1 od2 an2 od3 an3 od4 an4 od5 an5 od6 an6 : Option Addr} {sl1 sl2 sl3 sl4 sl5 sl6 : Array (Option Value)} {oc1 kV1 dc1 pm1 cd1 ct1 oc2 kV2 dc2 pm2 cd2 ct2 oc3 kV3 dc3 pm3 cd3 ct3 oc4 kV4 dc4 pm4 cd4 ct4 oc5 kV5 dc5 pm5 cd5 ct5 oc6 kV6 dc6 pm6 cd6 ct6 : Value}
    (a1 : PySem.W.nsIn K mainGlobals "is_size" = some (some (.ref f1))) (l1 : K.lookup f1 = some ⟨oc1, od1, .func (PySem.W.fnOf "is_size" "is_size" (defArgs sSize) (defBody sSize) (defScope sSize) .none kV1 dc1 pm1 an1 cd1 ct1), sl1⟩) (c1 : PySem.W.codeIn K cd1 "is_size" = true) (k1 : PySem.W.keepIn K (.ref f1) = true)
    (a2 : PySem.W.nsIn K mainGlobals "count_ones" = some (some (.ref f2))) (l2 : K.lookup f2 = some ⟨oc2, od2, .func (PySem.W.fnOf "count_ones" "count_ones" (defArgs sOnes) (defBody sOnes) (defScope sOnes) .none kV2 dc2 pm2 an2 cd2 ct2), sl2⟩) (c2 : PySem.W.codeIn K cd2 "count_ones" = true) (k2 : PySem.W.keepIn K (.ref f2) = true)
    (a3 : PySem.W.nsIn K mainGlobals "parts_of" = some (some (.ref f3))) (l3 : K.lookup f3 = some ⟨oc3, od3, .func (PySem.W.fnOf "parts_of" "parts_of" (defArgs sPart) (defBody sPart) (defScope sPart) .none kV3 dc3 pm3 an3 cd3 ct3), sl3⟩) (c3 : PySem.W.codeIn K cd3 "parts_of" = true) (k3 : PySem.W.keepIn K (.ref f3) = true)
    (a4 : PySem.W.nsIn K mainGlobals "letters_of" = some (some (.ref f4))) (l4 : K.lookup f4 = some ⟨oc4, od4, .func (PySem.W.fnOf "letters_of" "letters_of" (defArgs sLet) (defBody sLet) (defScope sLet) .none kV4 dc4 pm4 an4 cd4 ct4), sl4⟩) (c4 : PySem.W.codeIn K cd4 "letters_of" = true) (k4 : PySem.W.keepIn K (.ref f4) = true)
    (a5 : PySem.W.nsIn K mainGlobals "how_far" = some (some (.ref f5))) (l5 : K.lookup f5 = some ⟨oc5, od5, .func (PySem.W.fnOf "how_far" "how_far" (defArgs sFar) (defBody sFar) (defScope sFar) .none kV5 dc5 pm5 an5 cd5 ct5), sl5⟩) (c5 : PySem.W.codeIn K cd5 "how_far" = true) (k5 : PySem.W.keepIn K (.ref f5) = true)
    (a6 : PySem.W.nsIn K mainGlobals "lt_apart" = some (some (.ref f6))) (l6 : K.lookup f6 = some ⟨oc6, od6, .func (PySem.W.fnOf "lt_apart" "lt_apart" (defArgs sApart) (defBody sApart) (defScope sApart) .none kV6 dc6 pm6 an6 cd6 ct6), sl6⟩) (c6 : PySem.W.codeIn K cd6 "lt_apart" = true) (k6 : PySem.W.keepIn K (.ref f6) = true)
    (z1 : PySem.W.nsIn K mainGlobals "zip" = some none) (z2 : PySem.W.nsIn K mainGlobals "sum" = some none) (z3 : PySem.W.nsIn K mainGlobals "range" = some none) (z4 : PySem.W.nsIn K mainGlobals "len" = some none) :
    ∃ fd : FuncData, (∀ (s : Shared) (us : List Value), us.length = (["font", "a"] : List Str).length → BindsTo s fd ⟨us, []⟩ ((["font", "a"] : List Str).zip us)) ∧ ∀ base : Heap, K.In base → base.Ns mainGlobals mg → FnOk P w K mg base CX0 3 fa fd ["font", "a"] (spApart K) := by
  have e := hfa.symm.trans (PySem.W.mg_of X G a6)
  cases e
  have F1 := fun_mk (st := sSize) l1 c1 k1
  have F2 := fun_mk (st := sOnes) l2 c2 k2
  have F3 := fun_mk (st := sPart) l3 c3 k3
  have F4 := fun_mk (st := sLet) l4 c4 k4
  have F5 := fun_mk (st := sFar) l5 c5 k5
  have F6 := fun_mk (st := sApart) l6 c6 k6
  have b1 := F1.binds (ps := ["number"]) fun _ _ _ _ _ _ us hl => match us, hl with | [_], _ => rfl
  have b2 := F2.binds (ps := ["number"]) fun _ _ _ _ _ _ us hl => match us, hl with | [_], _ => rfl
  have b3 := F3.binds (ps := ["numbers", "length"]) fun _ _ _ _ _ _ us hl => match us, hl with | [_, _], _ => rfl
  have b4 := F4.binds (ps := ["font"]) fun _ _ _ _ _ _ us hl => match us, hl with | [_], _ => rfl
  have b5 := F5.binds (ps := ["a", "b"]) fun _ _ _ _ _ _ us hl => match us, hl with | [_, _], _ => rfl
  have g1 := PySem.W.mg_of X G a1
  have g2 := PySem.W.mg_of X G a2
  have g3 := PySem.W.mg_of X G a3
  have g4 := PySem.W.mg_of X G a4
  have g5 := PySem.W.mg_of X G a5
  have g6 := PySem.W.mg_of X G a6
  have mZip := PySem.W.mg_none_of X G z1
  have mSum := PySem.W.mg_none_of X G z2
  have mRange := PySem.W.mg_none_of X G z3
  have mLen := PySem.W.mg_none_of X G z4
  exact ⟨PySem.W.fnOf "lt_apart" "lt_apart" (defArgs sApart) (defBody sApart) (defScope sApart) .none kV6 dc6 pm6 an6 cd6 ct6, fun s us hu => match us, hu with | [_, _], _ => .of_eq rfl,
    fun base _ _ => ok_apart F6 F1 F4 F3 F5 F2 b1 b4 b3 b5 b2 g1 g4 g3 g5 g2 mZip mSum mRange mLen⟩
end Lt
open PySem PySem.W PyProof.Rows
set_option maxRecDepth 100000 in
set_option maxHeartbeats 8000000 in
theorem PySem.Challenge.cw_likelettersdesk_s04_lt_apart_holds : PySem.Challenge.rw_likelettersdesk_s04_lt_apart.Holds := by
  w_on; k_headS; (case hw => exact ⟨[.list [], .list []], by decide +kernel, by decide +kernel⟩)
  k_fillS
  refine L2.walk_specK (r := PySem.Challenge.rw_likelettersdesk_s04_lt_apart) (k := 3) (CX := L2.CX0) (ps := ["font", "a"]) (sp := Lt.spApart) (by decide +kernel) rfl rfl ⟨rfl, by decide, by decide⟩ (fun w h Y => PySem.W.kIn_of Y) ?F ?S (fun _ _ _ _ z => z)
  case F =>
    intro w mg fa h Y KX G hmg
    refine' Lt.all_mk KX G hmg ?a1 ?l1 ?c1 ?k1 ?a2 ?l2 ?c2 ?k2 ?a3 ?l3 ?c3 ?k3 ?a4 ?l4 ?c4 ?k4 ?a5 ?l5 ?c5 ?k5 ?a6 ?l6 ?c6 ?k6 ?z1 ?z2 ?z3 ?z4
    (case a1 => k_is); (case l1 => k_is); (case c1 => k_is); (case k1 => k_is)
    (case a2 => k_is); (case l2 => k_is); (case c2 => k_is); (case k2 => k_is)
    (case a3 => k_is); (case l3 => k_is); (case c3 => k_is); (case k3 => k_is)
    (case a4 => k_is); (case l4 => k_is); (case c4 => k_is); (case k4 => k_is)
    (case a5 => k_is); (case l5 => k_is); (case c5 => k_is); (case k5 => k_is)
    (case a6 => k_is); (case l6 => k_is); (case c6 => k_is); (case k6 => k_is)
    (case z1 => k_is)
    (case z2 => k_is)
    (case z3 => k_is)
    (case z4 => k_is)
  case S =>
    intro K H xs a hO hwi hask hx
    obtain ⟨font, la, u⟩ := a
    cases hx with
    | cons h1 h2 =>
      cases h2 with
      | cons h3 h4 =>
        cases h4
        cases h1 with
        | lst hs ha =>
          cases h3 with
          | lst hs2 ha2 =>
            have e1 := L2.ints_dw font _ ha
            have e2 := L2.ints_dw la _ ha2
            subst e1 e2
            have q : ((Codec.inLen 0 4112 font && font.all (Codec.inInt 0 65535)) && ((Codec.inLen 0 16 la && la.all (Codec.inInt 0 65535)) && true)) = true := hwi
            rw [Bool.and_eq_true, Bool.and_eq_true] at q
            have hlen := (Codec.inNat_iff.mp q.1.1).2
            obtain ⟨ns, ys, n, rfl, rfl, hl, hy, due⟩ := Lt.due_apart font la hask
            rw [Lt.iL_length] at hlen
            refine ⟨_, _, ns, ys, n, rfl, by rw [Lt.nV_iL]; exact hs, by rw [Lt.nV_iL]; exact hs2, hl, by omega, fun H' p hp => ?_⟩
            show L2.Dw K H' (.ref p) (WData.list ((PySh60.lt_apart (Lt.iL ns) (Lt.iL ys)).map WData.int))
            rw [due]
            exact .lst (L2.SqL.of hp) (L2.dw_ints _)
#print axioms PySem.Challenge.cw_likelettersdesk_s04_lt_apart_holds
