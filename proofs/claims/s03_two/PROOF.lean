import PyProof.Rows.All
import KE.OsGo
import PySem.Challenge.RW_remaindersums_s03_two
set_option Elab.async false
namespace RS
open Sv63
theorem setOf_succ (N : Nat) (p : Nat → Bool) : setOf (N + 1) p = setOf N p + (if p N = true then 2 ^ N else 0) := by
  unfold setOf remainders
  rw [List.range_succ, List.map_append, List.sum_append]
  simp
theorem setOf_lt (N : Nat) (p : Nat → Bool) : setOf N p < 2 ^ N := by
  induction N with
  | zero => simp [setOf, remainders]
  | succ N ih =>
    rw [setOf_succ, Nat.pow_succ]
    split <;> omega
theorem bit_high {a N z : Nat} (h : a < 2 ^ N) (hz : N ≤ z) : a.testBit z = false :=
  Nat.testBit_lt_two_pow (Nat.lt_of_lt_of_le h (Nat.pow_le_pow_right (by decide) hz))
theorem setOf_bit (N : Nat) (p : Nat → Bool) (z : Nat) : (setOf N p).testBit z = (decide (z < N) && p z) := by
  induction N with
  | zero => simp [setOf, remainders]
  | succ N ih =>
    rw [setOf_succ]
    by_cases hz : z < N
    · have e : decide (z < N + 1) = decide (z < N) := by simp [hz]; omega
      rw [e, ← ih]
      split
      · rw [Nat.add_comm, Nat.testBit_two_pow_add_gt hz]
      · rw [Nat.add_zero]
    · by_cases hzN : z = N
      · subst hzN
        have f := Nat.testBit_lt_two_pow (setOf_lt z p)
        by_cases hp : p z = true
        · rw [if_pos hp, Nat.add_comm, Nat.testBit_two_pow_add_eq, f, hp]
          simp
        · rw [if_neg hp, Nat.add_zero, f]
          simp [hp]
      · have l : setOf N p + (if p N = true then 2 ^ N else 0) < 2 ^ (N + 1) := by
          rw [← setOf_succ]
          exact setOf_lt _ _
        rw [bit_high l (by omega)]
        have : decide (z < N + 1) = false := by simp; omega
        rw [this, Bool.false_and]
theorem set_ext {N a : Nat} {p : Nat → Bool} (h : a < 2 ^ N) (hb : ∀ z, z < N → a.testBit z = p z) : a = setOf N p := by
  refine Nat.eq_of_testBit_eq fun z => ?_
  rw [setOf_bit]
  by_cases hz : z < N
  · rw [hb z hz]
    simp [hz]
  · rw [bit_high h (by omega)]
    simp [hz]
theorem mod_cases {x N : Nat} (h : x < 2 * N) : x % N = if x < N then x else x - N := by
  split
  · rename_i h1
    exact Nat.mod_eq_of_lt h1
  · rename_i h1
    rw [Nat.mod_eq_sub_mod (by omega)]
    exact Nat.mod_eq_of_lt (by omega)
def movedN (N A h : Nat) : Nat := ((A * 2 ^ h) ||| (A / 2 ^ (N - h))) &&& (2 ^ N - 1)
theorem moved_lt (N A h : Nat) : movedN N A h < 2 ^ N := by
  unfold movedN
  rw [Nat.and_two_pow_sub_one_eq_mod]
  exact Nat.mod_lt _ (Nat.two_pow_pos N)
theorem moved_bit {N A h z : Nat} (hA : A < 2 ^ N) (hh : h < N) (hz : z < N) : (movedN N A h).testBit z = A.testBit (if h ≤ z then z - h else z + N - h) := by
  unfold movedN
  rw [Nat.testBit_and, Nat.testBit_two_pow_sub_one, Nat.testBit_or, ← Nat.shiftLeft_eq, ← Nat.shiftRight_eq_div_pow, Nat.testBit_shiftLeft, Nat.testBit_shiftRight]
  split
  · rename_i h1
    rw [bit_high hA (show N ≤ N - h + z by omega)]
    simp [h1, hz]
  · rename_i h1
    have e : N - h + z = z + N - h := by omega
    rw [e]
    simp [h1, hz]
def addedN (N A B : Nat) : Nat := (List.range N).foldl (fun t h => if B.testBit h = true then t ||| movedN N A h else t) 0
theorem fold_lt {N : Nat} {c : Nat → Bool} {f : Nat → Nat} (hf : ∀ h, f h < 2 ^ N) : ∀ (l : List Nat) (t : Nat), t < 2 ^ N → l.foldl (fun t h => if c h = true then t ||| f h else t) t < 2 ^ N
  | [], t, ht => ht
  | x :: r, t, ht => by
    rw [List.foldl_cons]
    refine fold_lt hf r _ ?_
    split
    · exact Nat.or_lt_two_pow ht (hf x)
    · exact ht
theorem fold_bit {c : Nat → Bool} {f : Nat → Nat} {z : Nat} : ∀ (l : List Nat) (t : Nat), (l.foldl (fun t h => if c h = true then t ||| f h else t) t).testBit z = (t.testBit z || l.any fun h => c h && (f h).testBit z)
  | [], t => by simp
  | x :: r, t => by
    rw [List.foldl_cons, fold_bit r, List.any_cons]
    by_cases h : c x = true
    · rw [if_pos h, Nat.testBit_or, h, Bool.true_and, Bool.or_assoc]
    · rw [if_neg h]
      simp [h]
theorem added_lt (N A B : Nat) : addedN N A B < 2 ^ N := fold_lt (moved_lt N A) _ _ (Nat.two_pow_pos N)
theorem added_eq {N A B : Nat} (hA : A < 2 ^ N) : addedN N A B = sums N A B := by
  refine set_ext (added_lt N A B) fun z hz => ?_
  unfold addedN
  rw [fold_bit, Nat.zero_testBit, Bool.false_or, Bool.eq_iff_iff]
  simp only [remainders, has, List.any_eq_true, List.mem_range, Bool.and_eq_true, beq_iff_eq]
  constructor
  · rintro ⟨h, hh, hB, hm⟩
    rw [moved_bit hA hh hz] at hm
    refine ⟨if h ≤ z then z - h else z + N - h, by split <;> omega, hm, h, hh, hB, ?_⟩
    by_cases c : h ≤ z
    · rw [if_pos c, mod_cases (by omega)]
      split <;> omega
    · rw [if_neg c, mod_cases (by omega)]
      split <;> omega
  · rintro ⟨x, hx, hA', y, hy, hB, hs⟩
    refine ⟨y, hy, hB, ?_⟩
    rw [moved_bit hA hy hz]
    rw [mod_cases (by omega)] at hs
    have e : (if y ≤ z then z - y else z + N - y) = x := by
      split <;> split at hs <;> omega
    rw [e]
    exact hA'
theorem sums_lt (N A B : Nat) : sums N A B < 2 ^ N := setOf_lt _ _
theorem often_lt {N A k : Nat} (hN : 1 ≤ N) : often N A k < 2 ^ N := by
  cases k with
  | zero =>
    show 1 < 2 ^ N
    exact Nat.lt_of_lt_of_le (show 1 < 2 ^ 1 by decide) (Nat.pow_le_pow_right (by decide) hN)
  | succ k => exact sums_lt _ _ _
def oftenN (N A k : Nat) : Nat := (List.range k).foldl (fun t _ => addedN N t A) 1
theorem often_eq {N A : Nat} (hN : 1 ≤ N) : ∀ k, oftenN N A k = often N A k
  | 0 => rfl
  | k + 1 => by
    have e : oftenN N A (k + 1) = addedN N (oftenN N A k) A := by
      unfold oftenN
      rw [List.range_succ, List.foldl_append]
      rfl
    rw [e, often_eq hN k, added_eq (often_lt hN)]
    rfl
theorem many_sum (N A : Nat) : ((List.range N).map fun x => A / 2 ^ x % 2).sum = many N A := by
  unfold many remainders
  induction N with
  | zero => rfl
  | succ N ih =>
    rw [List.range_succ, List.map_append, List.sum_append, ih, List.filter_append, List.length_append]
    have : ([N].map fun x => A / 2 ^ x % 2).sum = ([N].filter fun x => has A x).length := by
      unfold has
      rw [List.map_cons, List.map_nil, List.sum_cons, List.sum_nil, List.filter_cons, Nat.testBit_eq_decide_div_mod_eq]
      by_cases h : A / 2 ^ N % 2 = 1
      · simp [h]
      · have : A / 2 ^ N % 2 = 0 := by omega
        simp [this]
    rw [this]
end RS

namespace RS
open Sv63
/-! What the specification says of two, still, step, free, some and just, bit by bit -/
theorem two_bit (N A z : Nat) : (two N A).testBit z = true ↔ z < N ∧ ∃ x, x < N ∧ A.testBit x = true ∧ ∃ y, y < N ∧ A.testBit y = true ∧ x ≠ y ∧ (x + y) % N = z := by
  unfold two
  rw [setOf_bit]
  simp only [remainders, has, Bool.and_eq_true, decide_eq_true_eq, List.any_eq_true, List.mem_range, bne_iff_ne, beq_iff_eq]
theorem two_lt (N A : Nat) : two N A < 2 ^ N := setOf_lt _ _
theorem bits_lt {N A x : Nat} (h : A < 2 ^ N) (hx : A.testBit x = true) : x < N := by
  refine Nat.lt_of_not_le fun q => ?_
  rw [bit_high h q] at hx
  exact Bool.noConfusion hx
/-- a set moved: the specification's and the program's -/
theorem moved_eq {N A h : Nat} (hA : A < 2 ^ N) (hh : h < N) : movedN N A h = moved N A h := by
  refine set_ext (moved_lt N A h) fun z hz => ?_
  rw [moved_bit hA hh hz, Bool.eq_iff_iff]
  simp only [remainders, has, List.any_eq_true, List.mem_range, Bool.and_eq_true, beq_iff_eq]
  constructor
  · intro hm
    refine ⟨if h ≤ z then z - h else z + N - h, by split <;> omega, hm, ?_⟩
    by_cases c : h ≤ z
    · rw [if_pos c, mod_cases (by omega)]
      split <;> omega
    · rw [if_neg c, mod_cases (by omega)]
      split <;> omega
  · rintro ⟨x, hx, hA', hs⟩
    rw [mod_cases (by omega)] at hs
    have e : (if h ≤ z then z - h else z + N - h) = x := by
      split <;> split at hs <;> omega
    rw [e]
    exact hA'
theorem still_bit {N A h : Nat} (hA : A < 2 ^ N) (hh : h < N) : (still N A).testBit h = decide (movedN N A h = A) := by
  unfold still
  rw [setOf_bit, moved_eq hA hh]
  simp [hh]
  rfl
theorem still_lt (N A : Nat) : still N A < 2 ^ N := setOf_lt _ _
/-- the first of a search over a range -/
theorem find_range {p : Nat → Bool} {m k : Nat} (hk : k < m) (hp : p k = true) (hl : ∀ j, j < k → p j = false) : (List.range m).find? p = some k := by
  rw [List.find?_range_eq_some]
  refine ⟨hp, List.mem_range.mpr hk, fun j hj => ?_⟩
  rw [hl j hj]
  rfl
theorem find_range_none {p : Nat → Bool} {m : Nat} (hl : ∀ j, j < m → p j = false) : (List.range m).find? p = none := by
  rw [List.find?_range_eq_none]
  intro j hj
  rw [hl j hj]
  rfl
/-- the best of a search over a range: the first of the most -/
def bestTo (n : Nat) (P : Nat → Bool) (m : Nat) : Nat := (List.range m).foldl (fun (w s : Nat) => if Sv63.many n w < Sv63.many n s ∧ P s = true then s else w) 0
theorem bestTo_succ (n : Nat) (P : Nat → Bool) (m : Nat) : bestTo n P (m + 1) = if Sv63.many n (bestTo n P m) < Sv63.many n m ∧ P m = true then m else bestTo n P m := by
  unfold bestTo
  rw [List.range_succ, List.foldl_append]
  rfl
theorem free_best (n : Nat) : Sv63Neutral.freeOf n = bestTo n (Sv63Neutral.isFree n) (2 ^ n) := rfl
end RS

namespace RS
open Sv63
theorem one_bit {x y : Nat} : (2 ^ x).testBit y = decide (x = y) := Nat.testBit_two_pow
def twoN (N A : Nat) : Nat := (List.range N).foldl (fun t x => if A.testBit x = true then t ||| movedN N (A ^^^ 2 ^ x) x else t) 0
theorem two_eq {N A : Nat} (hA : A < 2 ^ N) : twoN N A = two N A := by
  refine Nat.eq_of_testBit_eq fun z => ?_
  by_cases hz : z < N
  · unfold twoN
    rw [fold_bit, Nat.zero_testBit, Bool.false_or, Bool.eq_iff_iff, two_bit]
    simp only [List.any_eq_true, List.mem_range, Bool.and_eq_true]
    constructor
    · rintro ⟨h, hh, hB, hm⟩
      have hx : A ^^^ 2 ^ h < 2 ^ N := Nat.xor_lt_two_pow hA (Nat.pow_lt_pow_right (by decide) hh)
      rw [moved_bit hx hh hz, Nat.testBit_xor, one_bit] at hm
      refine ⟨hz, if h ≤ z then z - h else z + N - h, by split <;> omega, ?_, h, hh, hB, ?_, ?_⟩
      · by_cases e : h = (if h ≤ z then z - h else z + N - h)
        · rw [← e]
          exact hB
        · rw [decide_eq_false e, Bool.xor_false] at hm
          exact hm
      · intro e
        rw [e, decide_eq_true rfl, hB] at hm
        exact Bool.noConfusion hm
      · by_cases c : h ≤ z
        · rw [if_pos c, mod_cases (by omega)]
          split <;> omega
        · rw [if_neg c, mod_cases (by omega)]
          split <;> omega
    · rintro ⟨_, x, hx, hA', y, hy, hB, hne, hs⟩
      refine ⟨y, hy, hB, ?_⟩
      have hq : A ^^^ 2 ^ y < 2 ^ N := Nat.xor_lt_two_pow hA (Nat.pow_lt_pow_right (by decide) hy)
      rw [moved_bit hq hy hz, Nat.testBit_xor, one_bit]
      rw [mod_cases (by omega)] at hs
      have e : (if y ≤ z then z - y else z + N - y) = x := by
        split <;> split at hs <;> omega
      rw [e, hA', decide_eq_false (fun q => hne q.symm)]
      rfl
  · rw [bit_high (two_lt N A) (by omega)]
    exact bit_high (fold_lt (f := fun x => movedN N (A ^^^ 2 ^ x) x) (fun h => moved_lt N _ h) _ _ (Nat.two_pow_pos N)) (by omega)
def stillN (N A : Nat) : Nat := (List.range N).foldl (fun t h => if decide (movedN N A h = A) = true then t ||| 2 ^ h else t) 0
theorem fold_lt' {N : Nat} {c : Nat → Bool} {f : Nat → Nat} : ∀ (l : List Nat) (t : Nat), (∀ h ∈ l, f h < 2 ^ N) → t < 2 ^ N → l.foldl (fun t h => if c h = true then t ||| f h else t) t < 2 ^ N
  | [], t, _, ht => ht
  | x :: r, t, hf, ht => by
    rw [List.foldl_cons]
    refine fold_lt' r _ (fun h q => hf h (List.mem_cons_of_mem _ q)) ?_
    split
    · exact Nat.or_lt_two_pow ht (hf x (List.mem_cons_self ..))
    · exact ht
theorem still_eq {N A : Nat} (hA : A < 2 ^ N) : stillN N A = still N A := by
  refine Nat.eq_of_testBit_eq fun z => ?_
  by_cases hz : z < N
  · unfold stillN
    rw [fold_bit, Nat.zero_testBit, Bool.false_or, still_bit hA hz, Bool.eq_iff_iff]
    simp only [List.any_eq_true, List.mem_range, Bool.and_eq_true, one_bit, decide_eq_true_eq]
    constructor
    · rintro ⟨h, hh, hm, rfl⟩
      exact hm
    · intro h
      exact ⟨z, hz, h, rfl⟩
  · rw [bit_high (still_lt N A) (by omega)]
    refine bit_high (fold_lt' (f := fun x => 2 ^ x) _ _ (fun h q => ?_) (Nat.two_pow_pos N)) (show N ≤ z by omega)
    exact Nat.pow_lt_pow_right (by decide) (List.mem_range.mp q)
end RS

open PySem PySem.W
namespace RS
theorem and_nat (x y : Nat) : Builtin.bitAnd (x : Int) (y : Int) = ((x &&& y : Nat) : Int) := by
  rw [PyProof.Rows.bitAnd_pp (Int.natCast_nonneg x) (Int.natCast_nonneg y), Int.toNat_natCast, Int.toNat_natCast]
theorem or_add_and : ∀ (k x y : Nat), x < 2 ^ k → x + y = (x ||| y) + (x &&& y)
  | 0, x, y, h => by
    have : x = 0 := by omega
    subst this
    simp
  | k + 1, x, y, h => by
    have ih := or_add_and k (x / 2) (y / 2) (by rw [Nat.pow_succ] at h; omega)
    rw [← Nat.or_div_two, ← Nat.and_div_two] at ih
    have o := @Nat.or_mod_two_eq_one x y
    have a := @Nat.and_mod_two_eq_one x y
    omega
theorem or_nat (x y : Nat) : Builtin.bitOr (x : Int) (y : Int) = ((x ||| y : Nat) : Int) := by
  rw [PyProof.Rows.bitOr_and, and_nat]
  have h := or_add_and x x y Nat.lt_two_pow_self
  omega
theorem pow_nat (k : Nat) : (2 : Int) ^ k = ((2 ^ k : Nat) : Int) := (kbt_cast k).symm
theorem fdiv_nat (x k : Nat) : (x : Int).fdiv (2 ^ k) = ((x / 2 ^ k : Nat) : Int) := by
  rw [pow_nat, Int.fdiv_eq_ediv_of_nonneg _ (Int.natCast_nonneg _), Int.natCast_ediv]
theorem and_one (x : Nat) : Builtin.bitAnd (x : Int) 1 = ((x % 2 : Nat) : Int) := by
  have h := and_nat x 1
  rw [Nat.and_one_is_mod] at h
  exact h
theorem full_nat (N : Nat) : (1 : Int) * 2 ^ N - 1 = ((2 ^ N - 1 : Nat) : Int) := by
  have := Nat.two_pow_pos N
  rw [Int.one_mul, pow_nat]
  omega
theorem mul_nat (x k : Nat) : (x : Int) * 2 ^ k = ((x * 2 ^ k : Nat) : Int) := by
  rw [pow_nat, Int.natCast_mul]
def movedI (n a h : Int) : Int := Builtin.bitAnd (Builtin.bitOr (a * 2 ^ h.toNat) (a.fdiv (2 ^ (n - h).toNat))) (1 * 2 ^ n.toNat - 1)
theorem movedI_nat (N A h : Nat) : movedI (N : Int) (A : Int) (h : Int) = ((movedN N A h : Nat) : Int) := by
  unfold movedI movedN
  have e : ((N : Int) - (h : Int)).toNat = N - h := by omega
  rw [e, Int.toNat_natCast, Int.toNat_natCast, mul_nat, fdiv_nat, full_nat, or_nat, and_nat]
def addedI (n a b : Int) : Int := (rangeKs 0 (n - 0).toNat).foldl (fun a' k' => if Builtin.bitAnd (b.fdiv (2 ^ k'.toNat)) 1 = 1 then Builtin.bitOr a' (movedI n a k') else a') 0
theorem range_nat (N : Nat) : rangeKs 0 ((N : Int) - 0).toNat = (List.range N).map fun (i : Nat) => (i : Int) := by
  unfold rangeKs
  have e : ((N : Int) - 0).toNat = N := by omega
  rw [e]
  refine List.map_congr_left fun i _ => ?_
  omega
theorem bit_nat (B h : Nat) : (Builtin.bitAnd ((B : Int).fdiv (2 ^ (h : Int).toNat)) 1 = 1) ↔ B.testBit h = true := by
  rw [Int.toNat_natCast, fdiv_nat, and_one, Nat.testBit_eq_decide_div_mod_eq, decide_eq_true_eq]
  omega
theorem addedI_nat (N A B : Nat) : addedI (N : Int) (A : Int) (B : Int) = ((addedN N A B : Nat) : Int) := by
  unfold addedI addedN
  rw [range_nat, List.foldl_map]
  have key : ∀ (l : List Nat) (t : Nat), l.foldl (fun (a' : Int) (k' : Nat) => if Builtin.bitAnd ((B : Int).fdiv (2 ^ (k' : Int).toNat)) 1 = 1 then Builtin.bitOr a' (movedI N A k') else a') (t : Int) = ((l.foldl (fun t h => if B.testBit h = true then t ||| movedN N A h else t) t : Nat) : Int) := by
    intro l
    induction l with
    | nil => intro t; rfl
    | cons x r ih =>
      intro t
      rw [List.foldl_cons, List.foldl_cons]
      by_cases h : B.testBit x = true
      · rw [if_pos ((bit_nat B x).mpr h), if_pos h, movedI_nat, or_nat, ih]
      · rw [if_neg (fun q => h ((bit_nat B x).mp q)), if_neg h, ih]
  exact key (List.range N) 0
def manyI (n a : Int) : Int := ((rangeKs 0 (n - 0).toNat).map fun k' => Builtin.bitAnd (a.fdiv (2 ^ k'.toNat)) 1).sum
theorem sum_nat (f : Nat → Nat) : ∀ l : List Nat, (l.map fun i => ((f i : Nat) : Int)).sum = (((l.map f).sum : Nat) : Int)
  | [] => rfl
  | x :: r => by
    rw [List.map_cons, List.sum_cons, List.map_cons, List.sum_cons, sum_nat f r, Int.natCast_add]
theorem manyI_nat (N A : Nat) : manyI (N : Int) (A : Int) = ((Sv63.many N A : Nat) : Int) := by
  unfold manyI
  rw [range_nat, List.map_map, ← many_sum, ← sum_nat]
  congr 1
  refine List.map_congr_left fun i _ => ?_
  show Builtin.bitAnd ((A : Int).fdiv (2 ^ (i : Int).toNat)) 1 = _
  rw [Int.toNat_natCast, fdiv_nat, and_one]
/-- n and a set as the program looks at them -/
theorem wrong_nat {n a : Int} (h1 : 1 ≤ n) (ha : 0 ≤ a) : a.fdiv (2 ^ n.toNat) = 0 ↔ a.toNat < 2 ^ n.toNat := by
  obtain ⟨A, rfl⟩ := Int.eq_ofNat_of_zero_le ha
  rw [fdiv_nat, Int.toNat_natCast]
  have p := Nat.two_pow_pos n.toNat
  constructor
  · intro h
    have h : A / 2 ^ n.toNat = 0 := by omega
    exact Nat.lt_of_div_eq_zero p h
  · intro h
    rw [Nat.div_eq_of_lt h]
    rfl
theorem good_no {n : Int} {a : Nat} (h : n < 1 ∨ 64 < n) : Sv63.good n a = false := by
  unfold Sv63.good Sv63.within
  rcases h with h | h
  · have : decide (1 ≤ n) = false := by simp; omega
    rw [this]; simp
  · have : decide (n ≤ 64) = false := by simp; omega
    rw [this]; simp
theorem good_big {n a : Int} (h1 : 1 ≤ n) (ha : 0 ≤ a) (h : ¬ a.fdiv (2 ^ n.toNat) = 0) : Sv63.good n a.toNat = false := by
  unfold Sv63.good
  have : decide (a.toNat < 2 ^ n.toNat) = false := by
    simp only [decide_eq_false_iff_not]
    exact fun q => h ((wrong_nat h1 ha).mpr q)
  rw [this, Bool.and_false]
theorem good_yes {n a : Int} (h1 : 1 ≤ n) (h64 : n ≤ 64) (ha : 0 ≤ a) (h : a.fdiv (2 ^ n.toNat) = 0) : Sv63.good n a.toNat = true := by
  unfold Sv63.good Sv63.within
  have := (wrong_nat h1 ha).mp h
  simp [this, h1, h64]
end RS

open PySem PySem.W
namespace RS
theorem dec_cons {c : Codec} {cs : List Codec} {d : WData} {ds : List WData} (h : (Codec.decAll (c :: cs) (d :: ds)).isSome = true) :
    (Codec.decAll [c] [d]).isSome = true ∧ (Codec.decAll cs ds).isSome = true := by
  have e : Codec.decAll (c :: cs) (d :: ds) = Codec.both Prod.mk (c.dec d) (Codec.decAll cs ds) := rfl
  have e1 : Codec.decAll [c] [d] = Codec.both Prod.mk (c.dec d) (some ()) := rfl
  rw [e] at h
  rw [e1]
  cases h1 : c.dec d with
  | none =>
    rw [h1] at h
    cases h
  | some a =>
    cases h2 : Codec.decAll cs ds with
    | none =>
      rw [h1, h2] at h
      cases h
    | some r => exact ⟨rfl, rfl⟩
theorem dec_join {c : Codec} {cs : List Codec} {d : WData} {ds : List WData} {a : c.denote} {r : Codec.denoteAll cs} (h1 : Codec.decAll [c] [d] = some (a, ())) (h2 : Codec.decAll cs ds = some r) :
    Codec.decAll (c :: cs) (d :: ds) = some (a, r) := by
  have e : Codec.decAll (c :: cs) (d :: ds) = Codec.both Prod.mk (c.dec d) (Codec.decAll cs ds) := rfl
  have e1 : Codec.decAll [c] [d] = Codec.both Prod.mk (c.dec d) (some ()) := rfl
  rw [e1] at h1
  rw [e, h2]
  cases h3 : c.dec d with
  | none =>
    rw [h3] at h1
    cases h1
  | some b =>
    rw [h3] at h1
    cases h1
    rfl
theorem dec_int {lo hi k : Int} (h : (Codec.decAll [.int lo hi] [WData.int k]).isSome = true) : Codec.decAll [.int lo hi] [WData.int k] = some (k, ()) ∧ lo ≤ k ∧ k ≤ hi := by
  have e : Codec.decAll [.int lo hi] [WData.int k] = Codec.both Prod.mk (if Codec.inInt lo hi k = true then some k else none) (some ()) := rfl
  rw [e] at h ⊢
  cases h1 : Codec.inInt lo hi k with
  | false =>
    rw [h1] at h
    cases h
  | true =>
    unfold Codec.inInt at h1
    simp only [Bool.and_eq_true, decide_eq_true_eq] at h1
    exact ⟨rfl, h1.1, h1.2⟩
theorem same_one {x : Int} {k : List Int} (h : [x] = k) : same (ofPy (PyData.list [PyData.int x])) (WData.list (k.map WData.int)) = true := by
  subst h
  exact same_self _
theorem same_two {x y : Int} {k : List Int} (h : [x, y] = k) : same (ofPy (PyData.list [PyData.int x, PyData.int y])) (WData.list (k.map WData.int)) = true := by
  subst h
  exact same_self _
end RS

open PySem PySem.W
namespace RS
theorem xor_nat (x y : Nat) : Builtin.bitXor (x : Int) (y : Int) = ((x ^^^ y : Nat) : Int) := by
  unfold Builtin.bitXor
  rw [or_nat, and_nat]
  have h : (x ||| y) = (x ^^^ y) + (x &&& y) := by
    have e : (x ^^^ y) &&& (x &&& y) = 0 := by
      refine Nat.eq_of_testBit_eq fun z => ?_
      rw [Nat.testBit_and, Nat.testBit_xor, Nat.testBit_and, Nat.zero_testBit]
      cases x.testBit z <;> cases y.testBit z <;> rfl
    have e2 : (x ^^^ y) ||| (x &&& y) = x ||| y := by
      refine Nat.eq_of_testBit_eq fun z => ?_
      rw [Nat.testBit_or, Nat.testBit_xor, Nat.testBit_and, Nat.testBit_or]
      cases x.testBit z <;> cases y.testBit z <;> rfl
    have q := or_add_and (x ^^^ y) (x ^^^ y) (x &&& y) Nat.lt_two_pow_self
    rw [e, e2] at q
    exact q.symm
  omega
theorem shl_xor {a x h : Int} (la : PyData.layable0 (.int a) = true) (h64 : h ≤ 64) (x63 : x ≤ 64) : (Builtin.Int.intBits (Builtin.bitXor a (1 * 2 ^ x.toNat)) : Int) + h ≤ 2 ^ 27 := by
  have ha := PySem.PyData.bits_of_layable la
  have hp : (1 : Int) * 2 ^ x.toNat ≤ 18446744073709551616 ∧ 0 ≤ (1 : Int) * 2 ^ x.toNat := by
    rw [Int.one_mul, pow_nat]
    have p : 2 ^ x.toNat ≤ 2 ^ 64 := Nat.pow_le_pow_right (by decide) (by omega)
    have e : 2 ^ 64 = 18446744073709551616 := by decide
    exact ⟨by omega, Int.natCast_nonneg _⟩
  have hc := PyProof.Rows.bitAnd_range a hp.2
  have hb : Builtin.Int.intBits ((1 : Int) * 2 ^ x.toNat) ≤ 70 := PySem.intBits_le_iff.mpr (by
    have e : 2 ^ 70 = 1180591620717411303424 := by decide
    omega)
  have hd : Builtin.Int.intBits (2 * Builtin.bitAnd a (1 * 2 ^ x.toNat)) ≤ 70 := PySem.intBits_le_iff.mpr (by
    have e : 2 ^ 70 = 1180591620717411303424 := by decide
    omega)
  have q := PyProof.Rows.bits_sub (PyProof.Rows.bits_add ha hb) hd
  rw [PyProof.Rows.bitXor_and]
  have e : (2 : Int) ^ 27 = 134217728 := by decide
  rw [e]
  have q2 : Builtin.Int.intBits (a + 1 * 2 ^ x.toNat - 2 * Builtin.bitAnd a (1 * 2 ^ x.toNat)) ≤ 134217000 := Nat.le_trans q (by decide)
  omega
def twoI (n a : Int) : Int := (rangeKs 0 (n - 0).toNat).foldl (fun a' k' => if Builtin.bitAnd (a.fdiv (2 ^ k'.toNat)) 1 = 1 then Builtin.bitOr a' (movedI n (Builtin.bitXor a (1 * 2 ^ k'.toNat)) k') else a') 0
theorem twoI_nat (N A : Nat) : twoI (N : Int) (A : Int) = ((twoN N A : Nat) : Int) := by
  unfold twoI twoN
  rw [range_nat, List.foldl_map]
  have key : ∀ (l : List Nat) (t : Nat), l.foldl (fun (a' : Int) (k' : Nat) => if Builtin.bitAnd ((A : Int).fdiv (2 ^ (k' : Int).toNat)) 1 = 1 then Builtin.bitOr a' (movedI N (Builtin.bitXor A (1 * 2 ^ (k' : Int).toNat)) k') else a') (t : Int) = ((l.foldl (fun t h => if A.testBit h = true then t ||| movedN N (A ^^^ 2 ^ h) h else t) t : Nat) : Int) := by
    intro l
    induction l with
    | nil => intro t; rfl
    | cons x r ih =>
      intro t
      rw [List.foldl_cons, List.foldl_cons]
      by_cases h : A.testBit x = true
      · rw [if_pos ((bit_nat A x).mpr h), if_pos h, Int.toNat_natCast, Int.one_mul, pow_nat, xor_nat, movedI_nat, or_nat, ih]
      · rw [if_neg (fun q => h ((bit_nat A x).mp q)), if_neg h, ih]
  exact key (List.range N) 0
theorem two_def (n a : Int) : PySv63.two n a = Sv63Neutral.on (Sv63.good n a.toNat) true fun _ => Sv63Neutral.say (Sv63.told n.toNat (Sv63.two n.toNat a.toNat)) := rfl
theorem end_two {n a : Int} {l : List Int} (h : l = PySv63.two n a) : l = Codec.app PySem.Challenge.rw_remaindersums_s03_two.args PySem.Challenge.rw_remaindersums_s03_two.f (n, a, ()) := h
theorem two_no {n a : Int} (h : n < 1 ∨ 64 < n) : [-2] = PySv63.two n a := by
  rw [two_def, good_no h]
  rfl
theorem two_noa {n a : Int} (h : a.fdiv (2 ^ n.toNat) ≠ 0) (h1 : ¬ n < 1) (ha : 0 ≤ a) : [-2] = PySv63.two n a := by
  rw [two_def, good_big (by omega) ha h]
  rfl
theorem two_yes {n a : Int} (h1 : 1 ≤ n) (h64 : n ≤ 64) (ha : 0 ≤ a) (h : a.fdiv (2 ^ n.toNat) = 0) :
    [manyI n (twoI n a), twoI n a] = PySv63.two n a := by
  rw [two_def, good_yes h1 h64 ha h]
  have lt := (wrong_nat h1 ha).mp h
  obtain ⟨N, rfl⟩ := Int.eq_ofNat_of_zero_le (show 0 ≤ n by omega)
  obtain ⟨A, rfl⟩ := Int.eq_ofNat_of_zero_le ha
  rw [twoI_nat, manyI_nat, two_eq (N := N) (A := A) lt]
  rfl
end RS
set_option maxRecDepth 100000 in
set_option maxHeartbeats 8000000 in
theorem PySem.Challenge.cw_remaindersums_s03_two_holds : PySem.Challenge.rw_remaindersums_s03_two.Holds := by
  k_with "binaryOp LShift int int" => ((with_reducible refine PyProof.Rows.lshift_int ?kbn ?kbs ?_); (case kbn => omega); (case kbs => exact RS.shl_xor (by assumption) (by omega) (by omega)))
  open_ks with [.int 0, .int 0]
  all_goals
    obtain ⟨q1, q2⟩ := RS.dec_cons (os_pre_isSome hpre)
    obtain ⟨e1, lo1, hi1⟩ := RS.dec_int q1
    obtain ⟨e2, lo2, hi2⟩ := RS.dec_int q2
    refine os_post (RS.dec_join e1 e2) ?_
  all_goals first
    | exact RS.same_one (RS.end_two (RS.two_no (by omega)))
    | exact RS.same_one (RS.end_two (RS.two_noa (by assumption) (by omega) (by omega)))
    | exact RS.same_two (RS.end_two (RS.two_yes (by omega) (by omega) (by omega) (by assumption)))
#print axioms PySem.Challenge.cw_remaindersums_s03_two_holds
