import PyProof.Rows.All
import Wide.All
import OpenK.AllK
import Wide.FinOn
import Open.SpecLaws
import KE.OsGo
import HandS.ForSpec
import HandS.Comp
import HandS.Iter
import HandS.Text
import HandS.Walk
import PySem.Challenge.RW_likelettersdesk_s03_lt_crossings
set_option Elab.async false
namespace Lt

/-! ### how many ones a number has -/
def pop (n : Nat) : Nat := if h : n = 0 then 0 else n % 2 + pop (n / 2)
termination_by n
decreasing_by exact Nat.div_lt_self (by omega) (by omega)
theorem pop_zero : pop 0 = 0 := by rw [pop]; rfl
theorem pop_eq (n : Nat) : pop n = n % 2 + pop (n / 2) := by
  by_cases h : n = 0
  · subst h
    rw [show 0 / 2 = 0 from rfl, pop_zero]
  · rw [pop, dif_neg h]
theorem and_split (a b : Nat) : a &&& b = 2 * (a / 2 &&& b / 2) + (a % 2 &&& b % 2) := by
  have h1 : (a &&& b) / 2 = a / 2 &&& b / 2 := Nat.and_div_two
  have h2 : (a &&& b) % 2 = (a % 2) &&& (b % 2) := by
    have := Nat.and_mod_two_pow (a := a) (b := b) (n := 1)
    simpa using this
  omega
theorem bit_and {a b : Nat} (ha : a < 2) (hb : b < 2) : a &&& b = a * b := by
  have h1 : a = 0 ∨ a = 1 := by omega
  have h2 : b = 0 ∨ b = 1 := by omega
  rcases h1 with rfl | rfl <;> rcases h2 with rfl | rfl <;> rfl
theorem clear_even {n m : Nat} (h : n = 2 * m) (hm : 0 < m) : n &&& (n - 1) = 2 * (m &&& (m - 1)) := by
  rw [and_split, show n / 2 = m by omega, show (n - 1) / 2 = m - 1 by omega, show n % 2 = 0 by omega, Nat.zero_and, Nat.add_zero]
theorem clear_odd {n m : Nat} (h : n = 2 * m + 1) : n &&& (n - 1) = 2 * m := by
  rw [and_split, show n / 2 = m by omega, show (n - 1) / 2 = m by omega, show (n - 1) % 2 = 0 by omega, Nat.and_zero, Nat.add_zero, Nat.and_self]
theorem pop_dbl (m : Nat) : pop (2 * m) = pop m := by
  rw [pop_eq, show 2 * m % 2 = 0 by omega, show 2 * m / 2 = m by omega, Nat.zero_add]
theorem pop_dbl1 (m : Nat) : pop (2 * m + 1) = pop m + 1 := by
  rw [pop_eq, show (2 * m + 1) % 2 = 1 by omega, show (2 * m + 1) / 2 = m by omega, Nat.add_comm]
/-- the lowest one goes -/
theorem pop_clear (n : Nat) (h : 0 < n) : pop (n &&& (n - 1)) + 1 = pop n := by
  induction n using Nat.strongRecOn with
  | _ n ih =>
    rcases Nat.mod_two_eq_zero_or_one n with e | e
    · obtain ⟨m, rfl⟩ : ∃ m, n = 2 * m := ⟨n / 2, by omega⟩
      have hm : 0 < m := by omega
      rw [clear_even rfl hm, pop_dbl, pop_dbl]
      exact ih m (by omega) hm
    · obtain ⟨m, rfl⟩ : ∃ m, n = 2 * m + 1 := ⟨n / 2, by omega⟩
      rw [clear_odd rfl, pop_dbl, pop_dbl1]
theorem clear_lt {n : Nat} (h : 0 < n) : n &&& (n - 1) < n := Nat.lt_of_le_of_lt Nat.and_le_right (by omega)

/-! ### by places -/
def cnt (k : Nat) (p : Nat → Bool) : Nat := ((List.range k).filter p).length
theorem cnt_zero (p : Nat → Bool) : cnt 0 p = 0 := rfl
theorem cnt_succ (k : Nat) (p : Nat → Bool) : cnt (k + 1) p = (if p 0 then 1 else 0) + cnt k (fun i => p (i + 1)) := by
  unfold cnt
  rw [List.range_succ_eq_map, List.filter_cons, List.filter_map, apply_ite List.length, List.length_cons, List.length_map]
  show (if p 0 = true then (List.filter (fun i => p (i + 1)) (List.range k)).length + 1 else (List.filter (fun i => p (i + 1)) (List.range k)).length) = _
  split <;> omega
theorem cnt_congr {k : Nat} {p q : Nat → Bool} (h : ∀ i, i < k → p i = q i) : cnt k p = cnt k q := by
  unfold cnt
  exact congrArg List.length (List.filter_congr fun i hi => h i (List.mem_range.mp hi))
theorem cnt_le (k : Nat) (p : Nat → Bool) : cnt k p ≤ k := by
  unfold cnt
  exact Nat.le_trans (List.length_filter_le _ _) (Nat.le_of_eq List.length_range)
theorem pop_cnt : ∀ (k n : Nat), n < 2 ^ k → pop n = cnt k n.testBit
  | 0, n, h => by
    have : n = 0 := by simpa using h
    rw [this, pop_zero, cnt_zero]
  | k + 1, n, h => by
    rw [pop_eq, pop_cnt k (n / 2) (by rw [Nat.pow_succ] at h; omega), cnt_succ]
    have e : (fun i => n.testBit (i + 1)) = (n / 2).testBit := by
      funext i
      exact Nat.testBit_succ n i
    rw [e]
    have e0 : n % 2 = if n.testBit 0 = true then 1 else 0 := by
      rw [Nat.testBit_zero]
      rcases Nat.mod_two_eq_zero_or_one n with z | z <;> simp [z]
    omega
theorem bitOf (n i : Nat) : (n / 2 ^ i % 2 == 1) = n.testBit i := by
  rw [Nat.testBit_eq_decide_div_mod_eq]
  rfl

/-! ### w & ~v -/
theorem less_split (w v : Nat) : w - (w &&& v) = 2 * (w / 2 - (w / 2 &&& v / 2)) + (w % 2 - (w % 2 &&& v % 2)) := by
  have h := and_split w v
  have h1 : w / 2 &&& v / 2 ≤ w / 2 := Nat.and_le_left
  have h2 : w % 2 &&& v % 2 ≤ w % 2 := Nat.and_le_left
  omega
theorem testBit_less (i : Nat) : ∀ w v : Nat, (w - (w &&& v)).testBit i = (w.testBit i && !v.testBit i) := by
  induction i with
  | zero =>
    intro w v
    rw [less_split, Nat.testBit_zero, Nat.testBit_zero, Nat.testBit_zero]
    rw [bit_and (Nat.mod_lt _ (by omega)) (Nat.mod_lt _ (by omega))]
    rcases Nat.mod_two_eq_zero_or_one w with a | a <;> rcases Nat.mod_two_eq_zero_or_one v with b | b <;> rw [a, b] <;> simp <;> omega
  | succ i ih =>
    intro w v
    rw [Nat.testBit_succ, Nat.testBit_succ, Nat.testBit_succ, ← ih]
    congr 1
    rw [less_split w v]
    have h2 : w % 2 &&& v % 2 ≤ w % 2 := Nat.and_le_left
    omega

/-! ### a word of bits -/
def word : List Bool → Nat
  | [] => 0
  | b :: r => b.toNat + 2 * word r
theorem word_lt : ∀ l : List Bool, word l < 2 ^ l.length
  | [] => by decide
  | b :: r => by
    have ih := word_lt r
    have hb : b.toNat ≤ 1 := Bool.toNat_le b
    show b.toNat + 2 * word r < 2 ^ (r.length + 1)
    rw [Nat.pow_succ]
    omega
theorem word_snoc : ∀ (l : List Bool) (b : Bool), word (l ++ [b]) = word l + b.toNat * 2 ^ l.length
  | [], b => by simp [word]
  | c :: r, b => by
    show c.toNat + 2 * word (r ++ [b]) = c.toNat + 2 * word r + b.toNat * 2 ^ (r.length + 1)
    have e : b.toNat * 2 ^ (r.length + 1) = 2 * (b.toNat * 2 ^ r.length) := by
      rw [Nat.pow_succ, ← Nat.mul_assoc, Nat.mul_comm]
    rw [word_snoc r b, e]
    omega
theorem word_bit : ∀ (l : List Bool) (i : Nat), (word l).testBit i = l.getD i false
  | [], i => by simp [word]
  | c :: r, 0 => by
    show (c.toNat + 2 * word r).testBit 0 = c
    rw [Nat.testBit_zero]
    cases c <;> simp
  | c :: r, i + 1 => by
    rw [Nat.testBit_succ]
    have : word (c :: r) / 2 = word r := by
      show (c.toNat + 2 * word r) / 2 = word r
      have := Bool.toNat_le c
      omega
    rw [this, word_bit r i]
    rfl
/-- as the specification says it -/
theorem word_sum (l : List Bool) : word l = ((List.range l.length).map fun i => if l.getD i false = true then 2 ^ i else 0).sum := by
  induction l with
  | nil => rfl
  | cons c r ih =>
    rw [List.length_cons, List.range_succ_eq_map, List.map_cons, List.sum_cons, List.map_map]
    have e : ((fun i => if (c :: r).getD i false = true then 2 ^ i else 0) ∘ Nat.succ) = fun i => 2 * (if r.getD i false = true then 2 ^ i else 0) := by
      funext i
      show (if r.getD i false = true then 2 ^ (i + 1) else 0) = _
      rw [Nat.pow_succ]
      split <;> omega
    rw [e]
    have m2 : ∀ (f : Nat → Nat) (l : List Nat), (l.map fun i => 2 * f i).sum = 2 * (l.map f).sum := by
      intro f l
      induction l with
      | nil => rfl
      | cons a s hs =>
        rw [List.map_cons, List.map_cons, List.sum_cons, List.sum_cons, hs]
        omega
    rw [m2 (fun i => if r.getD i false = true then 2 ^ i else 0), ← ih]
    show c.toNat + 2 * word r = _
    cases c <;> rfl

/-! ### numbers as the request has them -/
def iL (l : List Nat) : List Int := l.map fun (n : Nat) => (n : Int)
theorem iL_sum : ∀ l : List Nat, (iL l).sum = (l.sum : Int)
  | [] => rfl
  | a :: r => by
    show ((a : Int) :: iL r).sum = ((a :: r).sum : Nat)
    rw [List.sum_cons, List.sum_cons, iL_sum r, Int.natCast_add]
/-- a list of ints that are not negative is one of naturals -/
theorem iL_of : ∀ l : List Int, (∀ z ∈ l, 0 ≤ z) → l = iL (l.map Int.toNat)
  | [], _ => rfl
  | a :: r, h => by
    have h0 := h a List.mem_cons_self
    show a :: r = ((a.toNat : Nat) : Int) :: iL (r.map Int.toNat)
    rw [← iL_of r fun z hz => h z (List.mem_cons_of_mem _ hz), Int.toNat_of_nonneg h0]

theorem iL_length (l : List Nat) : (iL l).length = l.length := List.length_map ..
theorem nats_iL : ∀ l : List Nat, Sh60Neutral.nats (iL l) = l
  | [] => rfl
  | a :: r => by
    show ((a : Int).toNat) :: Sh60Neutral.nats (iL r) = a :: r
    rw [nats_iL r, Int.toNat_natCast]
theorem all_iL {b : Nat} : ∀ {l : List Nat}, (iL l).all (fun z => Sh60Neutral.natural z b) = true → ∀ x ∈ l, x < 2 ^ b
  | [], _, x, h => by cases h
  | a :: r, h, x, hx => by
    have h' : (Sh60Neutral.natural (a : Int) b && (iL r).all fun z => Sh60Neutral.natural z b) = true := h
    rw [Bool.and_eq_true] at h'
    rcases List.mem_cons.mp hx with rfl | hx
    · have q := h'.1
      unfold Sh60Neutral.natural at q
      rw [Bool.and_eq_true] at q
      have q2 := of_decide_eq_true q.2
      have e : ((2 : Int) ^ b) = ((2 ^ b : Nat) : Int) := by rw [Int.natCast_pow]; rfl
      rw [e] at q2
      exact Int.ofNat_lt.mp q2
    · exact all_iL h'.2 x hx
theorem natural_nat {z : Int} {b : Nat} (h : Sh60Neutral.natural z b = true) : ∃ n : Nat, z = n ∧ n < 2 ^ b := by
  unfold Sh60Neutral.natural at h
  rw [Bool.and_eq_true] at h
  have h0 := of_decide_eq_true h.1
  have h1 := of_decide_eq_true h.2
  obtain ⟨n, rfl⟩ := Int.eq_ofNat_of_zero_le h0
  have e : ((2 : Int) ^ b) = ((2 ^ b : Nat) : Int) := by rw [Int.natCast_pow]; rfl
  rw [e] at h1
  exact ⟨n, rfl, Int.ofNat_lt.mp h1⟩
theorem nats_of {b : Nat} (l : List Int) (h : l.all (fun z => Sh60Neutral.natural z b) = true) : ∃ xs : List Nat, l = iL xs ∧ ∀ x ∈ xs, x < 2 ^ b := by
  refine ⟨l.map Int.toNat, ?_, ?_⟩
  · refine iL_of l fun z hz => ?_
    obtain ⟨n, rfl, _⟩ := natural_nat (List.all_eq_true.mp h z hz)
    exact Int.natCast_nonneg n
  · intro x hx
    obtain ⟨z, hz, rfl⟩ := List.mem_map.mp hx
    obtain ⟨n, rfl, hn⟩ := natural_nat (List.all_eq_true.mp h z hz)
    exact hn
end Lt
namespace Lt
open Sh60 (num glyph glyphs SIDE starts)

/-! ### rows of one length, one behind the other -/
theorem grid_len {α : Type} (f : Nat → Nat → α) (k : Nat) : ∀ n, ((List.range n).flatMap fun j => (List.range k).map (f j)).length = k * n
  | 0 => rfl
  | n + 1 => by
    rw [List.range_succ, List.flatMap_append, List.length_append, grid_len f k n, List.flatMap_cons, List.flatMap_nil, List.append_nil, List.length_map, List.length_range, Nat.mul_succ]
theorem grid_get {α : Type} (f : Nat → Nat → α) (k : Nat) : ∀ n j i, j < n → i < k → ((List.range n).flatMap fun j => (List.range k).map (f j))[k * j + i]? = some (f j i)
  | 0, j, i, h, _ => by omega
  | n + 1, j, i, h, hi => by
    rw [List.range_succ, List.flatMap_append, List.flatMap_cons, List.flatMap_nil, List.append_nil]
    by_cases e : j < n
    · rw [List.getElem?_append_left, grid_get f k n j i e hi]
      rw [grid_len]
      have : k * (j + 1) ≤ k * n := Nat.mul_le_mul_left k e
      rw [Nat.mul_succ] at this
      omega
    · have e' : j = n := by omega
      subst e'
      rw [List.getElem?_append_right (by rw [grid_len]; omega), grid_len, Nat.add_sub_cancel_left, List.getElem?_map, List.getElem?_range hi]
      rfl
theorem glyph_at (g : List Nat) {j i : Nat} (hj : j < 16) (hi : i < 16) : (glyph g).getD (16 * j + i) false = (num g j).testBit i := by
  have h : (glyph g)[16 * j + i]? = some (num g j / 2 ^ i % 2 == 1) := grid_get (fun j i => num g j / 2 ^ i % 2 == 1) 16 16 j i hj hi
  rw [List.getD_eq_getElem?_getD, h, Option.getD_some, bitOf]
/-- filter's length over such rows -/
theorem count_rows {α : Type} (p : α → Bool) (F : Nat → List α) : ∀ l : List Nat, ((l.flatMap F).filter p).length = (l.map fun j => ((F j).filter p).length).sum
  | [] => rfl
  | a :: r => by
    rw [List.flatMap_cons, List.filter_append, List.length_append, count_rows p F r, List.map_cons, List.sum_cons]
theorem zip_rows {α β : Type} (F : Nat → List α) (G : Nat → List β) (h : ∀ j, (F j).length = (G j).length) : ∀ l : List Nat, (l.flatMap F).zip (l.flatMap G) = l.flatMap fun j => (F j).zip (G j)
  | [] => rfl
  | a :: r => by
    rw [List.flatMap_cons, List.flatMap_cons, List.flatMap_cons, List.zip_append (h a), zip_rows F G h r]
theorem zip_same {α β γ : Type} (f : γ → α) (g : γ → β) : ∀ l : List γ, (l.map f).zip (l.map g) = l.map fun x => (f x, g x)
  | [] => rfl
  | a :: r => by
    rw [List.map_cons, List.map_cons, List.map_cons, List.zip_cons_cons, zip_same f g r]
theorem cnt_map {α : Type} (k : Nat) (f : Nat → α) (p : α → Bool) : (((List.range k).map f).filter p).length = cnt k fun i => p (f i) := by
  rw [List.filter_map, List.length_map]
  rfl

/-! ### lt_apart -/
theorem apart_is (a b : List Nat) (ha : ∀ j, j < 16 → num a j < 65536) (hb : ∀ j, j < 16 → num b j < 65536) :
    Sh60.apart (glyph a) (glyph b) = ((List.range 16).map fun j => pop (num a j ^^^ num b j)).sum := by
  unfold Sh60.apart glyph
  rw [zip_rows _ _ (fun j => by rw [List.length_map, List.length_map]), count_rows]
  refine congrArg List.sum (List.map_congr_left fun j hj => ?_)
  have hj' : j < 16 := List.mem_range.mp hj
  rw [zip_same, cnt_map, pop_cnt 16 _ (Nat.xor_lt_two_pow (ha j hj') (hb j hj'))]
  refine cnt_congr fun i _ => ?_
  rw [bitOf, bitOf, Nat.testBit_xor]

/-! ### lt_crossings -/
def runs (w : Nat) : Nat := pop (w - (w &&& (2 * w)))
theorem starts_is (l : List Bool) : starts l = runs (word l) := by
  unfold starts runs
  rw [pop_cnt l.length _ (Nat.lt_of_le_of_lt (Nat.sub_le _ _) (word_lt l))]
  show cnt l.length _ = _
  refine cnt_congr fun i _ => ?_
  rw [testBit_less, word_bit]
  refine congrArg (l.getD i false && ·) ?_
  cases i with
  | zero =>
    rw [Nat.testBit_zero, Nat.mul_mod_right]
    rfl
  | succ i =>
    rw [Nat.testBit_succ, Nat.mul_div_cancel_left _ (by omega), word_bit]
    rfl
theorem word_of_bits {n k : Nat} (h : n < 2 ^ k) : word ((List.range k).map n.testBit) = n := by
  refine Nat.eq_of_testBit_eq fun i => ?_
  rw [word_bit, List.getD_eq_getElem?_getD, List.getElem?_map]
  by_cases hi : i < k
  · rw [List.getElem?_range hi]
    rfl
  · rw [List.getElem?_eq_none (by rw [List.length_range]; omega)]
    exact (Nat.testBit_lt_two_pow (Nat.lt_of_lt_of_le h (Nat.pow_le_pow_right (by omega) (by omega)))).symm
/-- the columns' words -/
def column (g : List Nat) (i : Nat) : Nat := word (g.map fun r => r.testBit i)
theorem map_num {α : Type} (f : Nat → α) (g : List Nat) (h : g.length = 16) : (List.range 16).map (fun j => f (num g j)) = g.map f := by
  refine List.ext_getElem? fun j => ?_
  rw [List.getElem?_map, List.getElem?_map]
  by_cases hj : j < 16
  · rw [List.getElem?_range hj, List.getElem?_eq_getElem (show j < g.length by omega)]
    show some (f (g.getD j 0)) = _
    rw [List.getD_eq_getElem?_getD, List.getElem?_eq_getElem (show j < g.length by omega)]
    rfl
  · rw [List.getElem?_eq_none (by rw [List.length_range]; omega), List.getElem?_eq_none (show g.length ≤ j by omega)]
    rfl
theorem crossings_is (g : List Nat) (hl : g.length = 16) (hg : ∀ x ∈ g, x < 65536) :
    Sh60.crossings (glyph g) = (g ++ (List.range 16).map (column g)).map runs := by
  unfold Sh60.crossings
  rw [List.map_append, List.map_map]
  refine congr (congrArg HAppend.hAppend ?_) ?_
  · rw [← map_num runs g hl]
    refine List.map_congr_left fun j hj => ?_
    have hj' : j < 16 := List.mem_range.mp hj
    rw [starts_is]
    refine congrArg runs ?_
    have hn : num g j < 2 ^ 16 := by
      unfold num
      rw [List.getD_eq_getElem?_getD, List.getElem?_eq_getElem (show j < g.length by omega)]
      exact hg _ (List.getElem_mem _)
    refine Eq.trans ?_ (word_of_bits hn)
    refine congrArg word (List.map_congr_left fun i hi => ?_)
    exact glyph_at g hj' (List.mem_range.mp hi)
  · refine List.map_congr_left fun i hi => ?_
    have hi' : i < 16 := List.mem_range.mp hi
    rw [starts_is]
    show runs _ = runs (column g i)
    unfold column
    rw [← map_num (fun r => r.testBit i) g hl]
    refine congrArg runs (congrArg word (List.map_congr_left fun j hj => ?_))
    exact glyph_at g (List.mem_range.mp hj) hi'

/-! ### what is due of lt_apart -/
def far (xs ys : List Nat) : Nat := ((xs.zip ys).map fun p => pop (p.1 ^^^ p.2)).sum
def letter (xs : List Nat) (k : Nat) : List Nat := (xs.drop (16 * k)).take 16
theorem num_lt {l : List Nat} {B : Nat} (h : ∀ x ∈ l, x < B) {j : Nat} (hj : j < l.length) : num l j < B := by
  unfold num
  rw [List.getD_eq_getElem?_getD, List.getElem?_eq_getElem hj]
  exact h _ (List.getElem_mem _)
theorem apart_far (L ys : List Nat) (hL : L.length = 16) (hy : ys.length = 16) (bL : ∀ x ∈ L, x < 65536) (bY : ∀ x ∈ ys, x < 65536) : Sh60.apart (glyph ys) (glyph L) = far L ys := by
  rw [apart_is ys L (fun j hj => num_lt bY (by omega)) (fun j hj => num_lt bL (by omega))]
  unfold far
  refine congrArg List.sum (List.ext_getElem? fun j => ?_)
  rw [List.getElem?_map, List.getElem?_map]
  by_cases hj : j < 16
  · have e : (L.zip ys)[j]? = some (L[j]'(by omega), ys[j]'(by omega)) := List.getElem?_zip_eq_some.mpr ⟨List.getElem?_eq_getElem _, List.getElem?_eq_getElem _⟩
    rw [List.getElem?_range hj, e]
    show some (pop (ys.getD j 0 ^^^ L.getD j 0)) = _
    rw [List.getD_eq_getElem?_getD, List.getD_eq_getElem?_getD, List.getElem?_eq_getElem (show j < L.length by omega), List.getElem?_eq_getElem (show j < ys.length by omega)]
    show some (pop (ys[j] ^^^ L[j])) = some (pop (L[j] ^^^ ys[j]))
    rw [Nat.xor_comm]
  · rw [List.getElem?_eq_none (by rw [List.length_range]; omega), List.getElem?_eq_none (by rw [List.length_zip]; omega)]
    rfl
theorem letter_len {xs : List Nat} {n k : Nat} (h : xs.length = 16 * n) (hk : k < n) : (letter xs k).length = 16 := by
  unfold letter
  rw [List.length_take, List.length_drop]
  omega
theorem letter_mem {xs : List Nat} {k x : Nat} (h : x ∈ letter xs k) : x ∈ xs := List.mem_of_mem_drop (List.mem_of_mem_take h)
theorem some_is (n : Nat) : Sh60.some_ n = (decide (1 ≤ n) && decide (n ≤ 256)) := rfl
theorem due_apart (font a : List Int) (h : PySh60.lt_apart_asked font a = true) : ∃ (xs ys : List Nat) (n : Nat), font = iL xs ∧ a = iL ys ∧ xs.length = 16 * n ∧ ys.length ≤ 16 ∧
    PySh60.lt_apart font a = if Sh60.some_ n = true then 0 :: iL ((List.range n).map fun k => far (letter xs k) ys) else [-2] := by
  have h1 : Sh60Neutral.asked1 [[3], font, a] = true := (Bool.and_eq_true _ _ ▸ (show (Sh60Neutral.asked1 [[3], font, a] && _) = true from h)).1
  have h2 : (font.all (fun z => Sh60Neutral.natural z 16) && (a.all (fun z => Sh60Neutral.natural z 16) && (if Sh60.some_ ((Sh60Neutral.nats font).length / 16) = true then font.length == (16 * ((Sh60Neutral.nats font).length / 16)) && a.length == 16 else (font.isEmpty && a.isEmpty) || (font.length == (16 * ((Sh60Neutral.nats font).length / 16)) && a.length == 16)))) = true := h1
  rw [Bool.and_eq_true, Bool.and_eq_true] at h2
  obtain ⟨b1, b2, b3⟩ := h2
  obtain ⟨xs, rfl, hx⟩ := nats_of font b1
  obtain ⟨ys, rfl, hy⟩ := nats_of a b2
  rw [nats_iL, iL_length, iL_length] at b3
  have due : PySh60.lt_apart (iL xs) (iL ys) = Sh60Neutral.told (Sh60.answer (if Sh60.some_ ((Sh60Neutral.nats (iL xs)).length / 16) = true then .apart (Sh60Neutral.nats (iL xs)) (Sh60Neutral.nats (iL ys)) else .bad)) := rfl
  rw [nats_iL, nats_iL] at due
  refine ⟨xs, ys, xs.length / 16, rfl, rfl, ?_, ?_, ?_⟩
  · split at b3
    · simp only [Bool.and_eq_true, beq_iff_eq] at b3
      omega
    · simp only [Bool.or_eq_true, Bool.and_eq_true, beq_iff_eq] at b3
      rcases b3 with ⟨z, _⟩ | ⟨z, _⟩
      · have : xs = [] := by
          cases xs with
          | nil => rfl
          | cons c r => cases z
        subst this
        rfl
      · omega
  · split at b3
    · simp only [Bool.and_eq_true, beq_iff_eq] at b3
      omega
    · simp only [Bool.or_eq_true, Bool.and_eq_true, beq_iff_eq] at b3
      rcases b3 with ⟨_, z⟩ | ⟨_, z⟩
      · have : ys = [] := by
          cases ys with
          | nil => rfl
          | cons c r => cases z
        subst this
        exact Nat.zero_le _
      · omega
  · rw [due]
    by_cases c : Sh60.some_ (xs.length / 16) = true
    · rw [if_pos c, if_pos c]
      rw [if_pos c] at b3
      simp only [Bool.and_eq_true, beq_iff_eq] at b3
      show (0 : Int) :: iL ((glyphs xs).map (Sh60.apart (glyph ys))) = _
      refine congrArg (fun l => (0 : Int) :: iL l) ?_
      unfold Sh60.glyphs
      rw [List.map_map]
      refine List.map_congr_left fun k hk => ?_
      have hk' : k < xs.length / 16 := List.mem_range.mp hk
      exact apart_far (letter xs k) ys (letter_len b3.1 hk') b3.2 (fun x hx' => hx x (letter_mem hx')) hy
    · rw [if_neg c, if_neg c]
      rfl

/-! ### what is due of lt_crossings -/
theorem due_crossings (a : List Int) (h : PySh60.lt_crossings_asked a = true) : ∃ xs : List Nat, a = iL xs ∧ xs.length = 16 ∧ (∀ x ∈ xs, x < 65536) ∧
    PySh60.lt_crossings a = 0 :: iL ((xs ++ (List.range 16).map (column xs)).map runs) := by
  have h1 : Sh60Neutral.asked1 [[2], a] = true := (Bool.and_eq_true _ _ ▸ (show (Sh60Neutral.asked1 [[2], a] && _) = true from h)).1
  have h2 : (a.all (fun z => Sh60Neutral.natural z 16) && (a.length == 16)) = true := h1
  rw [Bool.and_eq_true] at h2
  obtain ⟨xs, rfl, hx⟩ := nats_of a h2.1
  have hl : xs.length = 16 := by
    have := h2.2
    rw [iL_length, beq_iff_eq] at this
    exact this
  refine ⟨xs, rfl, hl, hx, ?_⟩
  rw [← crossings_is xs hl hx]
  show (0 : Int) :: iL (Sh60.crossings (glyph (Sh60Neutral.nats (iL xs)))) = _
  rw [nats_iL]
end Lt
set_option linter.all false
set_option maxRecDepth 100000
set_option maxHeartbeats 4000000
namespace Lt
open PySem PySem.Spec PyProof.Rows L2

/-! ### lists of numbers as values -/
abbrev nV (n : Nat) : V := .int (n : Int)
theorem nV_iL (l : List Nat) : l.map nV = (iL l).map V.int := by
  unfold iL
  rw [List.map_map]
  rfl
/-! ### heaps -/
theorem same_upd {H : Hp} {p : Addr} {o : HO} (h : H p = none) : Same H (upd H p o) := fun b x e => by
  rw [upd_ne (ne_of_none e h)]
  exact e
/-- a store to p, which was not there at the start -/
theorem Same.put {H H' : Hp} {p : Addr} {o : HO} (s : Same H H') (h : H p = none) : Same H (upd H' p o) := fun b x e => by
  rw [upd_ne (ne_of_none e h)]
  exact s b x e
/-- all but B stands -/
def Keep (B : Addr) (H H' : Hp) : Prop := ∀ b o, b ≠ B → H b = some o → H' b = some o
theorem Keep.of {B : Addr} {H H' : Hp} (s : Same H H') : Keep B H H' := fun b o _ e => s b o e
theorem Keep.trans {B : Addr} {H H1 H2 : Hp} (a : Keep B H H1) (b : Keep B H1 H2) : Keep B H H2 := fun c o h e => b c o h (a c o h e)
theorem Keep.put {B : Addr} {H H' : Hp} {o : HO} (s : Keep B H H') : Keep B H (upd H' B o) := fun b x h e => by
  rw [upd_ne h]
  exact s b x h e
theorem Same.keep {B : Addr} {H H1 H2 : Hp} (a : Same H H1) (hB : H B = none) (b : Keep B H1 H2) : Same H H2 := fun c o e => b c o (ne_of_none e hB) (a c o e)

/-! ### list + list, wherever both are to be read -/
def rCatS (K : PySem.W.Frag) : R2 := fun x y H Q => ∃ l b xs zs, x = .ref l ∧ y = .ref b ∧ SqL K H l xs ∧ SqL K H b zs ∧ xs.length + zs.length ≤ sizeLine ∧ ∀ p, H p = none → Q (.ref p) (upd H p (.lst (xs ++ zs)))
theorem op_catS {X : Cx} : OpR X (binaryOp .Add) (rCatS X.K) := by
  intro pn st sl Hp1 x y v u Qv Inv1 rx ry hyp
  obtain ⟨p1, p2, ls1, ls2, rfl, rfl, in1, in2, room, goes⟩ := hyp
  cases rx
  cases ry
  obtain ⟨vs1, val1, ⟨⟨cls, dd, data, slots1⟩, n1, get1, hc, hd, hs⟩, _⟩ := Inv1.list in1
  obtain ⟨vs2, val2, ⟨⟨cls2, dd2, data2, slots2⟩, n2, get2, hc2, hd2, hs2⟩, _⟩ := Inv1.list in2
  simp only at hc hd hs hc2 hd2 hs2
  subst hc hd hs hc2 hd2 hs2
  have len1 := val1.length
  have len2 := val2.length
  refine concat_meets ⟨_, get1, rfl⟩ ⟨_, get2, rfl⟩ noFill_list_add seq_list_add PySem.F.slot_list_add PySem.F.entry_list_add (PySem.F.args_list_add_2 _ _)
    (list_addW p1 p2 vs1.toArray vs2.toArray n1 n2 none none slots1 slots2 (by rw [List.size_toArray, List.size_toArray]; omega)) ⟨get1, get2, ?_⟩
  have glued : vs1.toArray ++ vs2.toArray = (vs1 ++ vs2).toArray := by simp
  rw [glued]
  refine ⟨.ref _, _, Inv1.lnew (t' := st.toks) (val1.append val2) ?_, rfl, goes _ Inv1.fresh⟩
  rw [List.length_append]
  omega

/-! ### range(0, c n, c) -/
theorem rgN (c n : Nat) (hc : 0 < c) (hc2 : c ≤ 64) (h : n ≤ 1000) : RgC 0 ((c * n : Nat) : Int) (c : Int) n := by
  have hb : c * n ≤ 64 * 1000 := Nat.mul_le_mul hc2 h
  have e : Builtin.Range.rangeSize 0 ((c * n : Nat) : Int) (c : Int) = n := by
    unfold Builtin.Range.rangeSize
    rw [if_pos (by omega)]
    cases n with
    | zero =>
      rw [Nat.mul_zero, if_neg (by omega)]
      rfl
    | succ m =>
      rw [Nat.mul_succ, if_pos (by omega), show (((c * m + c : Nat) : Int) - 0 - 1) = ((c * m + (c - 1) : Nat) : Int) by omega, ← Int.natCast_ediv, Nat.mul_add_div hc, Nat.div_eq_of_lt (by omega)]
      omega
  refine ⟨by omega, by omega, ?_, e⟩
  unfold Builtin.Range.small
  rw [e]
  generalize c * n = z at *
  have fit : ∀ i : Int, 0 ≤ i → i < 100000 → Builtin.Range.rangeFitsLong i = true := fun i h0 h1 => by
    have p : (100000 : Int) ≤ 2 ^ 63 := by decide
    have p0 : (0 : Int) ≤ 2 ^ 63 := by decide
    unfold Builtin.Range.rangeFitsLong
    generalize (2 : Int) ^ 63 = z at *
    rw [decide_eq_true (show -z ≤ i by omega), decide_eq_true (show i < z by omega)]
    rfl
  rw [fit 0 (by omega) (by omega), fit _ (show 0 ≤ (z : Int) by omega) (by omega), fit c (by omega) (by omega), fit n (by omega) (by omega), if_pos (by omega), fit _ (show 0 ≤ (z : Int) + ((c : Int) - 1) by omega) (by omega), Bool.or_true]
  rfl
theorem and_nat (a b : Nat) : Builtin.bitAnd (a : Int) (b : Int) = ((a &&& b : Nat) : Int) := by
  have ha := Int.natCast_nonneg a
  rw [bitAnd_pp ha (Int.natCast_nonneg b), Int.toNat_natCast, Int.toNat_natCast]
theorem xor_nat (a b : Nat) : Builtin.bitXor (a : Int) (b : Int) = ((a ^^^ b : Nat) : Int) := by
  rw [Bits.bitXor_pp (Int.natCast_nonneg a) (Int.natCast_nonneg b), Int.toNat_natCast, Int.toNat_natCast]
/-- number & number - 1 -/
theorem clear_int (m : Nat) (h : 0 < m) : Builtin.bitAnd (m : Int) ((m : Int) - 1) = ((m &&& (m - 1) : Nat) : Int) := by
  rw [show ((m : Int) - 1) = ((m - 1 : Nat) : Int) by omega, and_nat]
/-- an item of a mapped list -/
theorem map_at {α β : Type} {f : α → β} {l : List α} {i : Nat} {y : β} (h : (l.map f)[i]? = some y) : ∃ x, l[i]? = some x ∧ y = f x := by
  rw [List.getElem?_map] at h
  cases e : l[i]? with
  | none =>
    rw [e] at h
    cases h
  | some x =>
    rw [e] at h
    exact ⟨x, rfl, (Option.some.inj h).symm⟩
theorem take_snoc {α : Type} {l : List α} {i : Nat} {x : α} (h : l[i]? = some x) : l.take (i + 1) = l.take i ++ [x] := by
  rw [List.take_add_one, h]
  rfl
theorem range_take {n i : Nat} (h : i ≤ n) : (List.range n).take i = List.range i := by
  rw [List.take_range, Nat.min_eq_left h]
/-- a comprehension without a test: its item is made -/
theorem yes {σ : L2.St} {H : Hp} {A B : Bool → Hp → Prop} (h : A true H) : tYes σ H fun b H3 => if b = true then A b H3 else B b H3 := by
  show if true = true then A true H else B true H
  rw [if_pos rfl]
  exact h
theorem smallL {n : Nat} (h : n ≤ 70000) : n < sizeLine := Nat.lt_of_le_of_lt h (by decide)
theorem smallE {n : Nat} (h : n ≤ 70000) : n ≤ sizeLine := Nat.le_of_lt (smallL h)

/-! ### bits -/
abbrev bV (b : Bool) : V := .int (b.toNat : Int)
theorem or_word (bs : List Bool) (i : Nat) (b : Bool) (h : bs[i]? = some b) : Builtin.bitOr ((word (bs.take i) : Nat) : Int) ((b.toNat : Int) * 2 ^ ((i : Nat) : Int).toNat) = ((word (bs.take (i + 1)) : Nat) : Int) := by
  have hl : (bs.take i).length = i := by
    rw [List.length_take]
    have := (List.getElem?_eq_some_iff.mp h).1
    omega
  have w := word_lt (bs.take i)
  rw [hl] at w
  rw [Int.toNat_natCast, Bits.bitOr_join (Int.natCast_nonneg _) (by
    rw [show ((2 : Int) ^ i) = ((2 ^ i : Nat) : Int) by rw [Int.natCast_pow]; rfl]
    exact Int.ofNat_lt.mpr w) (Int.natCast_nonneg _), take_snoc h, word_snoc, hl, Int.natCast_add, Int.natCast_mul, Int.natCast_pow]
  rfl
/-- n & ~(n << 1) -/
theorem less_int (n : Nat) : Builtin.bitAnd (n : Int) (Builtin.bitNot ((n : Int) * 2 ^ (1 : Int).toNat)) = ((n - (n &&& (2 * n)) : Nat) : Int) := by
  have e : (n : Int) * 2 ^ (1 : Int).toNat = ((2 * n : Nat) : Int) := by
    show (n : Int) * 2 = _
    omega
  rw [e]
  have h1 : decide ((0 : Int) ≤ (n : Int)) = true := decide_eq_true (Int.natCast_nonneg n)
  have h2 : decide ((0 : Int) ≤ Builtin.bitNot ((2 * n : Nat) : Int)) = false := decide_eq_false (by
    unfold Builtin.bitNot
    omega)
  have h3 : Builtin.bitNot (Builtin.bitNot ((2 * n : Nat) : Int)) = ((2 * n : Nat) : Int) := by
    unfold Builtin.bitNot
    omega
  unfold Builtin.bitAnd
  rw [h1, h2]
  show (n : Int) - ((((n : Int)).toNat &&& (Builtin.bitNot (Builtin.bitNot ((2 * n : Nat) : Int))).toNat : Nat) : Int) = _
  rw [h3, Int.toNat_natCast, Int.toNat_natCast]
  have : n &&& (2 * n) ≤ n := Nat.and_le_left
  omega
theorem bit_int (r i : Nat) : Builtin.bitAnd ((r : Int) / 2 ^ i) 1 = ((r.testBit i).toNat : Int) := by
  rw [bitAnd_m1, Nat.toNat_testBit, Int.natCast_emod, Int.natCast_ediv, Int.natCast_pow]
  rfl
/-! ### a slice -/
theorem cut_nat {xs : List V} {a b : Nat} {x y : Int} (ex : x = a) (ey : y = b) (hab : a ≤ b) (hb : b ≤ xs.length) : cutV xs (some x) (some y) = (xs.drop a).take (b - a) := by
  subst ex ey
  unfold cutV
  rw [HT.sIx_nat, HT.sIx_nat, Nat.min_eq_left hb, Nat.min_eq_left (by omega)]
end Lt
namespace Lt
open PySem PySem.Spec PyProof.Rows L2
open PySem.W (Codec)
def top (i : Nat) : Stmt := PySem.Challenge.pw_likelettersdesk_s03_lt_crossings.main.body.getD i (.Pass ⟨0, 0, 0, 0⟩)
abbrev sOnes : Stmt := top 1
abbrev sWord : Stmt := top 2
abbrev sRuns : Stmt := top 3
abbrev sCol : Stmt := top 4
abbrev sCross : Stmt := top 5
section
variable {P : Program} {w : World} {K : PySem.W.Frag} {mg : Str → Option Value} {base : Heap}
theorem scO : FnScope ["number", "ones"] ["number"] (defScope sOnes) := ⟨rfl, rfl, rfl, by decide +kernel, rfl, by decide +kernel, by decide +kernel⟩
/-! ### count_ones -/
def spOnes : Sp := fun vs H Q _ => ∃ n : Nat, vs = [nV n] ∧ Q (nV (pop n)) H
theorem ok_ones {f : Addr} {fd : FuncData} (F : Fun K "count_ones" "count_ones" sOnes f fd) : FnOk P w K mg base CX0 1 f fd ["number"] spOnes := by
  refine F.ok scO (fun vs H Q E h => ?_) (fun cdv A outer s H vs Q E hr h => ?_)
  · obtain ⟨n, rfl, _⟩ := h
    rfl
  · obtain ⟨n, rfl, q⟩ := h
    refine ⟨_, pss_cons (ps_set (i := 1) scO.nd rfl (.inl rfl) pe_int)
      (pss_cons (ps_while PassesOwn.never (pt_cmpR op_gt (pv 0) pe_int (nomark _))
        (pss_cons (ps_set (i := 0) scO.nd rfl (.inl rfl) (pe_op op_and (pv 0) (pe_op op_sub (pv 0) pe_int)))
          (pss_one (ps_aug (i := 1) scO.nd rfl (.inl rfl) pe_int ip_add))))
      (pss_one (ps_ret (pv 1)))), ?_⟩
    refine ⟨fun m σ H' => ∃ c : Nat, σ = [some (nV m), some (nV c)] ∧ c + pop m = pop n ∧ H' = H, ⟨n, 0, rfl, by omega, rfl⟩, ?_⟩
    rintro m σ _ ⟨c, rfl, ec, rfl⟩
    refine ⟨_, rfl, _, _, rfl, rfl, _, rfl, ite2 (fun e => ?_) (fun e => ?_)⟩
    · have hm : 0 < m := by
        have := of_decide_eq_true e
        omega
      refine ⟨fun σ' H' => ∃ c' : Nat, σ' = [some (nV (m &&& (m - 1))), some (nV c')] ∧ c' + pop (m &&& (m - 1)) = pop n ∧ H' = _, fun σ' H' hN => ⟨_, clear_lt hm, hN⟩, ?_⟩
      refine ⟨_, rfl, _, rfl, _, _, rfl, rfl, _, _, rfl, rfl, ?_⟩
      refine ⟨_, rfl, _, _, rfl, rfl, ?_⟩
      refine ⟨c + 1, ?_, ?_, rfl⟩
      · show [some (V.int (Builtin.bitAnd (m : Int) ((m : Int) - 1))), some (V.int ((c : Int) + 1))] = _
        rw [clear_int m hm]
        rfl
      · have := pop_clear m hm
        omega
    · have hm : m = 0 := by
        have := of_decide_eq_false (Bool.not_eq_true _ ▸ e)
        omega
      subst hm
      rw [pop_zero, Nat.add_zero] at ec
      subst ec
      exact ⟨_, rfl, q⟩
theorem scW : FnScope ["bits", "word", "i", "bit"] ["bits"] (defScope sWord) := ⟨rfl, rfl, rfl, by decide +kernel, rfl, by decide +kernel, by decide +kernel⟩
/-! ### word_of -/
def spWord (K : PySem.W.Frag) : Sp := fun vs H Q _ => ∃ (a : Addr) (bs : List Bool), vs = [.ref a] ∧ SqL K H a (bs.map bV) ∧ bs.length ≤ 1000 ∧ ∀ H', Same H H' → Q (nV (word bs)) H'
theorem ok_word {f : Addr} {fd : FuncData} (F : Fun K "word_of" "word_of" sWord f fd) (me : mg "enumerate" = none) : FnOk P w K mg base CX0 1 f fd ["bits"] (spWord K) := by
  refine F.ok scW (fun vs H Q E h => ?_) (fun cdv A outer s H vs Q E hr h => ?_)
  · obtain ⟨a, bs, rfl, _⟩ := h
    rfl
  · obtain ⟨a, bs, rfl, hb, hl, q⟩ := h
    refine ⟨_, pss_cons (ps_set (i := 1) scW.nd rfl (.inl rfl) pe_int)
      (pss_cons (ps_for PassesOwn.never rfl (pi_enum (by rfl) me (pa_cons (pv 0) pa_nil)) (pg_tup rfl (pgs_cons (pg_name (i := 2) scW.nd rfl (.inl rfl)) (pgs_cons (pg_name (i := 3) scW.nd rfl (.inl rfl)) pgs_nil)))
        (pss_one (ps_set (i := 1) scW.nd rfl (.inl rfl) (pe_op op_or (pv 1) (pe_op op_shl (pv 3) (pv 2))))))
      (pss_one (ps_ret (pv 1)))), ?_⟩
    refine ⟨_, rfl, a, _, rfl, hb, ?_⟩
    refine for_it (walk_enum (xs := bs.map bV)) (fun i σ H' => ∃ y2 y3, σ = [some (.ref a), some (nV (word (bs.take i))), y2, y3] ∧ Same H H') ⟨none, none, rfl, Same.refl H⟩ (fun i σ H' _ h => by
      obtain ⟨_, _, _, sm⟩ := h
      exact sm.seq hb) ?_ ?_
    · rintro i x σ H1 _ hi ⟨y2, y3, rfl, sm⟩ ⟨T, x1, x2, rfl, nT, rfl, e1, e2⟩
      have ex1 : V.int (i : Nat) = x1 := Option.some.inj e1
      subst ex1
      obtain ⟨b, hb', rfl⟩ := map_at e2
      have hi' : i < bs.length := by
        rw [List.length_map] at hi
        exact hi
      refine ⟨T, _, rfl, .inl (.inl upd_same), rfl, _, _, rfl, _, _, rfl, rfl, ?_⟩
      refine ⟨_, rfl, _, rfl, _, rfl, _, _, rfl, rfl, ⟨by omega, by omega, ?_⟩, _, _, rfl, rfl, ?_⟩
      · cases b <;> decide
      · refine ⟨some (V.int (i : Nat)), some (bV b), ?_, sm.trans (same_upd nT)⟩
        show [some (V.ref a), some (V.int (Builtin.bitOr (word (bs.take i) : Nat) ((b.toNat : Int) * 2 ^ ((i : Nat) : Int).toNat))), _, _] = _
        rw [or_word bs i b hb']
    · rintro σ H1 ⟨y2, y3, rfl, sm⟩
      rw [List.length_map, List.take_length]
      exact ⟨_, rfl, q H1 sm⟩
theorem scR : FnScope ["word"] ["word"] (defScope sRuns) := ⟨rfl, rfl, rfl, by decide +kernel, rfl, by decide +kernel, by decide +kernel⟩
/-! ### count_runs -/
def spRuns : Sp := fun vs H Q _ => ∃ n : Nat, vs = [nV n] ∧ n < 2 ^ 32 ∧ Q (nV (runs n)) H
theorem ok_runs {f f1 : Addr} {fd fd1 : FuncData} (F : Fun K "count_runs" "count_runs" sRuns f fd) (F1 : Fun K "count_ones" "count_ones" sOnes f1 fd1) (b1 : Binds K fd1 ["number"] []) (g1 : mg "count_ones" = some (.ref f1)) : FnOk P w K mg base CX0 2 f fd ["word"] spRuns := by
  have G1 : FnOk P w K mg base CX0 1 f1 fd1 ["number"] spOnes := ok_ones F1
  refine F.ok scR (fun vs H Q E h => ?_) (fun cdv A outer s H vs Q E hr h => ?_)
  · obtain ⟨n, rfl, _⟩ := h
    rfl
  · obtain ⟨n, rfl, hn, q⟩ := h
    have hr1 : Room 1 _ := hr
    refine ⟨_, pss_one (ps_ret (pe_call G1 hr1 (by rfl) g1 F1.kp b1 .nil pass0 (pa_cons (pe_op op_and (pv 0) (pe_un un_inv (pe_op op_shl (pv 0) pe_int))) pa_nil))), ?_⟩
    refine ⟨_, rfl, _, rfl, _, _, rfl, rfl, ⟨by omega, by omega, ?_⟩, _, rfl, _, _, rfl, rfl, n - (n &&& (2 * n)), ?_, q⟩
    · show ((n : Int)).natAbs < 2 ^ 64
      rw [Int.natAbs_natCast]
      exact Nat.lt_trans hn (by decide)
    · show [V.int (Builtin.bitAnd (n : Int) (Builtin.bitNot ((n : Int) * 2 ^ (1 : Int).toNat)))] = _
      rw [less_int]
theorem scC : FnScope ["a", "i", "row"] ["a"] (defScope sCol) := ⟨rfl, rfl, rfl, by decide +kernel, rfl, by decide +kernel, by decide +kernel⟩
/-! ### column_words -/
/-- the scope of the comprehension that a def hands back -/
def retScope (s : Stmt) : Scope := match defBody s with
  | [.Return (some (.ListComp _ _ sc _)) _] => sc
  | _ => defScope s
def spCol (K : PySem.W.Frag) : Sp := fun vs H Q _ => ∃ (a : Addr) (xs : List Nat), vs = [.ref a] ∧ SqL K H a (xs.map nV) ∧ xs.length ≤ 1000 ∧
  ∀ H' p, Same H H' → H p = none → H' p = some (.lst (((List.range 16).map (column xs)).map nV)) → Q (.ref p) H'
theorem ok_col {f f1 : Addr} {fd fd1 : FuncData} (F : Fun K "column_words" "column_words" sCol f fd) (F1 : Fun K "word_of" "word_of" sWord f1 fd1) (b1 : Binds K fd1 ["bits"] []) (g1 : mg "word_of" = some (.ref f1)) (mr : mg "range" = none) (me : mg "enumerate" = none) : FnOk P w K mg base CX0 2 f fd ["a"] (spCol K) := by
  have G1 : FnOk P w K mg base CX0 1 f1 fd1 ["bits"] (spWord K) := ok_word F1 me
  refine F.ok scC (fun vs H Q E h => ?_) (fun cdv A outer s H vs Q E hr h => ?_)
  · obtain ⟨a, xs, rfl, _⟩ := h
    rfl
  · obtain ⟨a, xs, rfl, hx, hl, q⟩ := h
    have hr1 : Room 1 _ := hr
    refine ⟨_, pss_one (ps_ret (pe_lc (own := [("i", 1)]) (g := gName 1) (tt := tYes) rfl scC.nd (pi_range1 (by rfl) mr (pa_cons pe_int pa_nil)) (blkOk_by (N := ["a", "i", "row"]) (sc := defScope sCol) (by decide +kernel))
      (fun _ _ _ _ _ => pg_name (i := 1) scC.nd rfl (.inr rfl) (.inl rfl)) (fun _ _ _ _ _ => pts_nil)
      (fun _ _ _ _ _ => pe_call G1 hr1 (by rfl) g1 F1.kp b1 .nil pass0 (pa_cons
        (pe_lc (own := [("row", 2)]) (wi := iList K (tVar 0)) (g := gName 2) (tt := tYes) rfl scC.nd (pi_list (pv 0)) (blkOk_by (N := ["a", "i", "row"]) (sc := relS (retScope sCol) (defScope sCol)) (by decide +kernel))
          (fun _ _ _ _ _ => pg_name (i := 2) scC.nd rfl (.inl rfl) (.inr rfl)) (fun _ _ _ _ _ => pts_nil)
          (fun _ _ _ _ _ => pe_op op_and (pe_op op_shr (pv 2) (pv 1)) pe_int)) pa_nil)))), ?_⟩
    refine ⟨16, rfl, by decide, by decide, fun D hD => ?_⟩
    refine lc_it walk_range (fun i H' => Same H H' ∧ H' D = some (.lst (((List.range 16).take i).map fun k => nV (column xs k)))) ⟨same_upd hD, upd_same⟩ (fun _ _ _ _ => trivial) ?_ ?_
    · rintro i x _ H1 hi ⟨sm, eD⟩ ⟨rfl, rfl⟩
      have hi' : i < 16 := hi
      refine ⟨rfl, yes ?_⟩
      refine ⟨_, rfl, a, rfl, ⟨_, sm.seq hx⟩, fun D2 hD2 => ?_⟩
      have nD : D ≠ D2 := ne_of_none eD hD2
      refine lc_it (walk_list (xs := xs.map nV)) (fun j H' => Same H1 H' ∧ H' D2 = some (.lst ((xs.take j).map fun r => bV (r.testBit i)))) ⟨same_upd hD2, upd_same⟩ (fun j H' _ h => h.1.seq (sm.seq hx)) ?_ ?_
      · rintro j x H2 _ hj ⟨sm2, eD2⟩ ⟨rfl, ex⟩
        obtain ⟨r, hr, rfl⟩ := map_at ex
        refine ⟨rfl, yes ?_⟩
        refine ⟨_, rfl, _, rfl, _, _, rfl, rfl, by omega, _, _, rfl, rfl, _, eD2, ?_, Same.put sm2 hD2, ?_⟩
        · rw [List.length_map, List.length_take]
          exact smallL (by omega)
        · rw [upd_same, take_snoc hr, List.map_append]
          refine congrArg (fun z => some (HO.lst (_ ++ [z]))) ?_
          show V.int (Builtin.bitAnd ((r : Int) / 2 ^ (0 + (i : Int)).toNat) 1) = bV (r.testBit i)
          rw [Int.zero_add, Int.toNat_natCast, bit_int]
      · rintro H2 ⟨sm2, eD2⟩
        rw [List.length_map, List.take_length] at eD2
        refine ⟨D2, xs.map fun r => r.testBit i, rfl, ?_, by rw [List.length_map]; exact hl, fun H3 sm3 => ?_⟩
        · rw [List.map_map]
          exact .inl (.inl eD2)
        · refine ⟨_, sm3 _ _ (sm2 _ _ eD), ?_, Same.put (sm.trans (sm2.trans sm3)) hD, ?_⟩
          · rw [List.length_map, List.length_take, List.length_range]
            exact smallL (by omega)
          · rw [upd_same, take_snoc (List.getElem?_range hi'), List.map_append]
            rfl
    · rintro H1 ⟨sm, eD⟩
      refine q H1 D sm hD ?_
      rw [eD, List.map_map]
      rfl
theorem scX : FnScope ["a", "word"] ["a"] (defScope sCross) := ⟨rfl, rfl, rfl, by decide +kernel, rfl, by decide +kernel, by decide +kernel⟩
/-! ### lt_crossings -/
def spCross (K : PySem.W.Frag) : Sp := fun vs H Q _ => ∃ (a : Addr) (xs : List Nat), vs = [.ref a] ∧ SqL K H a (xs.map nV) ∧ xs.length = 16 ∧ (∀ x ∈ xs, x < 65536) ∧
  ∀ H' p, H' p = some (.lst ((0 :: iL ((xs ++ (List.range 16).map (column xs)).map runs)).map V.int)) → Q (.ref p) H'
theorem ok_cross {f fr fc f1 fw : Addr} {fd fdr fdc fd1 fdw : FuncData} (F : Fun K "lt_crossings" "lt_crossings" sCross f fd) (FR : Fun K "count_runs" "count_runs" sRuns fr fdr) (FC : Fun K "column_words" "column_words" sCol fc fdc) (F1 : Fun K "count_ones" "count_ones" sOnes f1 fd1) (FW : Fun K "word_of" "word_of" sWord fw fdw)
    (br : Binds K fdr ["word"] []) (bc : Binds K fdc ["a"] []) (b1 : Binds K fd1 ["number"] []) (bw : Binds K fdw ["bits"] [])
    (gr : mg "count_runs" = some (.ref fr)) (gc : mg "column_words" = some (.ref fc)) (g1 : mg "count_ones" = some (.ref f1)) (gw : mg "word_of" = some (.ref fw))
    (mr : mg "range" = none) (me : mg "enumerate" = none) : FnOk P w K mg base CX0 3 f fd ["a"] (spCross K) := by
  have GR : FnOk P w K mg base CX0 2 fr fdr ["word"] spRuns := ok_runs FR F1 b1 g1
  have GC : FnOk P w K mg base CX0 2 fc fdc ["a"] (spCol K) := ok_col FC FW bw gw mr me
  refine F.ok scX (fun vs H Q E h => ?_) (fun cdv A outer s H vs Q E hr h => ?_)
  · obtain ⟨a, xs, rfl, _⟩ := h
    rfl
  · obtain ⟨a, xs, rfl, hx, hl, hb, q⟩ := h
    have hr2 : Room 2 _ := hr
    refine ⟨_, pss_one (ps_ret (pe_op op_cat (pe_lst (pa_cons pe_int pa_nil))
      (pe_lc (own := [("word", 1)]) (g := gName 1) (tt := tYes) rfl scX.nd (pi_list (pe_op op_catS (pv 0) (pe_call GC hr2 (by rfl) gc FC.kp bc .nil pass0 (pa_cons (pv 0) pa_nil))))
        (blkOk_by (N := ["a", "word"]) (sc := defScope sCross) (by decide +kernel))
        (fun _ _ _ _ _ => pg_name (i := 1) scX.nd rfl (.inl rfl) (.inr rfl)) (fun _ _ _ _ _ => pts_nil)
        (fun _ _ _ _ _ => pe_call GR hr2 (by rfl) gr FR.kp br .nil pass0 (pa_cons (pv 1) pa_nil))))), ?_⟩
    refine ⟨by show 1 ≤ sizeLine; decide, fun u hu => ?_⟩
    have s1 : Same H (upd H u (.lst [.int 0])) := same_upd hu
    refine ⟨_, rfl, _, rfl, a, xs, rfl, s1.seq hx, by omega, fun H2 c sm2 nc ec => ?_⟩
    refine ⟨a, c, _, _, rfl, rfl, (s1.trans sm2).seq hx, .inl (.inl ec), ?_, fun v hv => ?_⟩
    · rw [List.length_map, List.length_map, List.length_map, List.length_range]
      exact smallE (by omega)
    have sm3 : Same H2 (upd H2 v (.lst (xs.map nV ++ ((List.range 16).map (column xs)).map nV))) := same_upd hv
    have eL : xs.map nV ++ ((List.range 16).map (column xs)).map nV = (xs ++ (List.range 16).map (column xs)).map nV := (List.map_append ..).symm
    rw [eL] at sm3 ⊢
    have hL : (xs ++ (List.range 16).map (column xs)).length = 32 := by
      rw [List.length_append, List.length_map, List.length_range, hl]
    have hB : ∀ x ∈ xs ++ (List.range 16).map (column xs), x < 2 ^ 32 := by
      intro x hx'
      rcases List.mem_append.mp hx' with z | z
      · exact Nat.lt_trans (hb x z) (by decide)
      · obtain ⟨i, _, rfl⟩ := List.mem_map.mp z
        have := word_lt (xs.map fun r => r.testBit i)
        rw [List.length_map, hl] at this
        exact Nat.lt_trans this (by decide)
    generalize xs ++ (List.range 16).map (column xs) = L at *
    refine ⟨v, rfl, ⟨_, .inl (.inl upd_same)⟩, fun D hD => ?_⟩
    refine lc_it (walk_list (xs := L.map nV)) (fun i H' => Same (upd H2 v (.lst (L.map nV))) H' ∧ H' D = some (.lst ((L.take i).map fun n => nV (runs n)))) ⟨same_upd hD, upd_same⟩ (fun i H' _ h => .inl (.inl (h.1 _ _ upd_same))) ?_ ?_
    · rintro i x H3 _ hi ⟨sm4, eD⟩ ⟨rfl, ex⟩
      obtain ⟨n, hn, rfl⟩ := map_at ex
      refine ⟨rfl, yes ?_⟩
      refine ⟨_, rfl, n, rfl, hB n (List.mem_of_getElem? hn), _, eD, ?_, Same.put sm4 hD, ?_⟩
      · rw [List.length_map, List.length_take]
        exact smallL (by omega)
      · rw [upd_same, take_snoc hn, List.map_append]
        rfl
    · rintro H3 ⟨sm4, eD⟩
      rw [List.length_map, List.take_length] at eD
      refine ⟨u, D, _, _, rfl, rfl, sm4 _ _ (sm3 _ _ (sm2 _ _ upd_same)), eD, ?_, fun z hz => ?_⟩
      · rw [List.length_map]
        exact smallE (by show 1 + L.length ≤ 70000; omega)
      · refine q _ z ?_
        rw [upd_same]
        refine congrArg (fun l => some (HO.lst l)) ?_
        show V.int 0 :: _ = V.int 0 :: _
        rw [← nV_iL, List.map_map]
        rfl
end
/-! ### what the top has written -/
theorem all_mk {P : Program} {w : World} {K : PySem.W.Frag} {h : Heap} {mg : Str → Option Value} {fa f1 f2 f3 f4 f5 : Addr} (X : K.In h) (G : h.Ns mainGlobals mg) (hfa : mg "lt_crossings" = some (.ref fa))
    {od1 an1 od2 an2 od3 an3 od4 an4 od5 an5 : Option Addr} {sl1 sl2 sl3 sl4 sl5 : Array (Option Value)} {oc1 kV1 dc1 pm1 cd1 ct1 oc2 kV2 dc2 pm2 cd2 ct2 oc3 kV3 dc3 pm3 cd3 ct3 oc4 kV4 dc4 pm4 cd4 ct4 oc5 kV5 dc5 pm5 cd5 ct5 : Value}
    (a1 : PySem.W.nsIn K mainGlobals "count_ones" = some (some (.ref f1))) (l1 : K.lookup f1 = some ⟨oc1, od1, .func (PySem.W.fnOf "count_ones" "count_ones" (defArgs sOnes) (defBody sOnes) (defScope sOnes) .none kV1 dc1 pm1 an1 cd1 ct1), sl1⟩) (c1 : PySem.W.codeIn K cd1 "count_ones" = true) (k1 : PySem.W.keepIn K (.ref f1) = true)
    (a2 : PySem.W.nsIn K mainGlobals "word_of" = some (some (.ref f2))) (l2 : K.lookup f2 = some ⟨oc2, od2, .func (PySem.W.fnOf "word_of" "word_of" (defArgs sWord) (defBody sWord) (defScope sWord) .none kV2 dc2 pm2 an2 cd2 ct2), sl2⟩) (c2 : PySem.W.codeIn K cd2 "word_of" = true) (k2 : PySem.W.keepIn K (.ref f2) = true)
    (a3 : PySem.W.nsIn K mainGlobals "count_runs" = some (some (.ref f3))) (l3 : K.lookup f3 = some ⟨oc3, od3, .func (PySem.W.fnOf "count_runs" "count_runs" (defArgs sRuns) (defBody sRuns) (defScope sRuns) .none kV3 dc3 pm3 an3 cd3 ct3), sl3⟩) (c3 : PySem.W.codeIn K cd3 "count_runs" = true) (k3 : PySem.W.keepIn K (.ref f3) = true)
    (a4 : PySem.W.nsIn K mainGlobals "column_words" = some (some (.ref f4))) (l4 : K.lookup f4 = some ⟨oc4, od4, .func (PySem.W.fnOf "column_words" "column_words" (defArgs sCol) (defBody sCol) (defScope sCol) .none kV4 dc4 pm4 an4 cd4 ct4), sl4⟩) (c4 : PySem.W.codeIn K cd4 "column_words" = true) (k4 : PySem.W.keepIn K (.ref f4) = true)
    (a5 : PySem.W.nsIn K mainGlobals "lt_crossings" = some (some (.ref f5))) (l5 : K.lookup f5 = some ⟨oc5, od5, .func (PySem.W.fnOf "lt_crossings" "lt_crossings" (defArgs sCross) (defBody sCross) (defScope sCross) .none kV5 dc5 pm5 an5 cd5 ct5), sl5⟩) (c5 : PySem.W.codeIn K cd5 "lt_crossings" = true) (k5 : PySem.W.keepIn K (.ref f5) = true)
    (z1 : PySem.W.nsIn K mainGlobals "range" = some none) (z2 : PySem.W.nsIn K mainGlobals "enumerate" = some none) :
    ∃ fd : FuncData, (∀ (s : Shared) (us : List Value), us.length = (["a"] : List Str).length → BindsTo s fd ⟨us, []⟩ ((["a"] : List Str).zip us)) ∧ ∀ base : Heap, K.In base → base.Ns mainGlobals mg → FnOk P w K mg base CX0 3 fa fd ["a"] (spCross K) := by
  have e := hfa.symm.trans (PySem.W.mg_of X G a5)
  cases e
  have F1 := fun_mk (st := sOnes) l1 c1 k1
  have F2 := fun_mk (st := sWord) l2 c2 k2
  have F3 := fun_mk (st := sRuns) l3 c3 k3
  have F4 := fun_mk (st := sCol) l4 c4 k4
  have F5 := fun_mk (st := sCross) l5 c5 k5
  have b1 := F1.binds (ps := ["number"]) fun _ _ _ _ _ _ us hl => match us, hl with | [_], _ => rfl
  have b2 := F2.binds (ps := ["bits"]) fun _ _ _ _ _ _ us hl => match us, hl with | [_], _ => rfl
  have b3 := F3.binds (ps := ["word"]) fun _ _ _ _ _ _ us hl => match us, hl with | [_], _ => rfl
  have b4 := F4.binds (ps := ["a"]) fun _ _ _ _ _ _ us hl => match us, hl with | [_], _ => rfl
  have g1 := PySem.W.mg_of X G a1
  have g2 := PySem.W.mg_of X G a2
  have g3 := PySem.W.mg_of X G a3
  have g4 := PySem.W.mg_of X G a4
  have g5 := PySem.W.mg_of X G a5
  have mRange := PySem.W.mg_none_of X G z1
  have mEnumerate := PySem.W.mg_none_of X G z2
  exact ⟨PySem.W.fnOf "lt_crossings" "lt_crossings" (defArgs sCross) (defBody sCross) (defScope sCross) .none kV5 dc5 pm5 an5 cd5 ct5, fun s us hu => match us, hu with | [_], _ => .of_eq rfl,
    fun base _ _ => ok_cross F5 F3 F4 F1 F2 b3 b4 b1 b2 g3 g4 g1 g2 mRange mEnumerate⟩
end Lt
open PySem PySem.W PyProof.Rows
set_option maxRecDepth 100000 in
set_option maxHeartbeats 8000000 in
theorem PySem.Challenge.cw_likelettersdesk_s03_lt_crossings_holds : PySem.Challenge.rw_likelettersdesk_s03_lt_crossings.Holds := by
  w_on; k_headS; (case hw => exact ⟨[.list [.int 0, .int 0, .int 0, .int 0, .int 0, .int 0, .int 0, .int 0, .int 0, .int 0, .int 0, .int 0, .int 0, .int 0, .int 0, .int 0]], by decide +kernel, by decide +kernel⟩)
  k_fillS
  refine L2.walk_specK (r := PySem.Challenge.rw_likelettersdesk_s03_lt_crossings) (k := 3) (CX := L2.CX0) (ps := ["a"]) (sp := Lt.spCross) (by decide +kernel) rfl rfl ⟨rfl, by decide, by decide⟩ (fun w h Y => PySem.W.kIn_of Y) ?F ?S (fun _ _ _ _ z => z)
  case F =>
    intro w mg fa h Y KX G hmg
    refine' Lt.all_mk KX G hmg ?a1 ?l1 ?c1 ?k1 ?a2 ?l2 ?c2 ?k2 ?a3 ?l3 ?c3 ?k3 ?a4 ?l4 ?c4 ?k4 ?a5 ?l5 ?c5 ?k5 ?z1 ?z2
    (case a1 => k_is); (case l1 => k_is); (case c1 => k_is); (case k1 => k_is)
    (case a2 => k_is); (case l2 => k_is); (case c2 => k_is); (case k2 => k_is)
    (case a3 => k_is); (case l3 => k_is); (case c3 => k_is); (case k3 => k_is)
    (case a4 => k_is); (case l4 => k_is); (case c4 => k_is); (case k4 => k_is)
    (case a5 => k_is); (case l5 => k_is); (case c5 => k_is); (case k5 => k_is)
    (case z1 => k_is)
    (case z2 => k_is)
  case S =>
    intro K H xs a hO hwi hask hx
    obtain ⟨la, u⟩ := a
    cases hx with
    | cons h1 h2 =>
      cases h2
      cases h1 with
      | lst hs ha =>
        have e1 := L2.ints_dw la _ ha
        subst e1
        obtain ⟨ns, rfl, hl, hb, due⟩ := Lt.due_crossings la hask
        refine ⟨_, ns, rfl, by rw [Lt.nV_iL]; exact hs, hl, hb, fun H' p hp => ?_⟩
        show L2.Dw K H' (.ref p) (WData.list ((PySh60.lt_crossings (Lt.iL ns)).map WData.int))
        rw [due]
        exact .lst (L2.SqL.of hp) (L2.dw_ints _)
#print axioms PySem.Challenge.cw_likelettersdesk_s03_lt_crossings_holds
