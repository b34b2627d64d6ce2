import PyProof.Rows.All
import KE.OsGo
import PySem.Challenge.RW_remaindersums_s02_often
set_option Elab.async false
namespace RS
open Sv63
theorem setOf_succ (N : Nat) (p : Nat → Bool) : setOf (N + 1) p = setOf N p + (if p N = true then 2 ^ N else 0) := by
  unfold setOf remainders
  rw [List.range_succ, List.map_append, List.sum_append]
  simp
theorem setOf_lt (N : Nat) (p : Nat → Bool) : setOf N p < 2 ^ N := by
  induction N with
  | zero => simp [setOf, remainders]
  | succ N ih =>
    rw [setOf_succ, Nat.pow_succ]
    split <;> omega
theorem bit_high {a N z : Nat} (h : a < 2 ^ N) (hz : N ≤ z) : a.testBit z = false :=
  Nat.testBit_lt_two_pow (Nat.lt_of_lt_of_le h (Nat.pow_le_pow_right (by decide) hz))
theorem setOf_bit (N : Nat) (p : Nat → Bool) (z : Nat) : (setOf N p).testBit z = (decide (z < N) && p z) := by
  induction N with
  | zero => simp [setOf, remainders]
  | succ N ih =>
    rw [setOf_succ]
    by_cases hz : z < N
    · have e : decide (z < N + 1) = decide (z < N) := by simp [hz]; omega
      rw [e, ← ih]
      split
      · rw [Nat.add_comm, Nat.testBit_two_pow_add_gt hz]
      · rw [Nat.add_zero]
    · by_cases hzN : z = N
      · subst hzN
        have f := Nat.testBit_lt_two_pow (setOf_lt z p)
        by_cases hp : p z = true
        · rw [if_pos hp, Nat.add_comm, Nat.testBit_two_pow_add_eq, f, hp]
          simp
        · rw [if_neg hp, Nat.add_zero, f]
          simp [hp]
      · have l : setOf N p + (if p N = true then 2 ^ N else 0) < 2 ^ (N + 1) := by
          rw [← setOf_succ]
          exact setOf_lt _ _
        rw [bit_high l (by omega)]
        have : decide (z < N + 1) = false := by simp; omega
        rw [this, Bool.false_and]
theorem set_ext {N a : Nat} {p : Nat → Bool} (h : a < 2 ^ N) (hb : ∀ z, z < N → a.testBit z = p z) : a = setOf N p := by
  refine Nat.eq_of_testBit_eq fun z => ?_
  rw [setOf_bit]
  by_cases hz : z < N
  · rw [hb z hz]
    simp [hz]
  · rw [bit_high h (by omega)]
    simp [hz]
theorem mod_cases {x N : Nat} (h : x < 2 * N) : x % N = if x < N then x else x - N := by
  split
  · rename_i h1
    exact Nat.mod_eq_of_lt h1
  · rename_i h1
    rw [Nat.mod_eq_sub_mod (by omega)]
    exact Nat.mod_eq_of_lt (by omega)
def movedN (N A h : Nat) : Nat := ((A * 2 ^ h) ||| (A / 2 ^ (N - h))) &&& (2 ^ N - 1)
theorem moved_lt (N A h : Nat) : movedN N A h < 2 ^ N := by
  unfold movedN
  rw [Nat.and_two_pow_sub_one_eq_mod]
  exact Nat.mod_lt _ (Nat.two_pow_pos N)
theorem moved_bit {N A h z : Nat} (hA : A < 2 ^ N) (hh : h < N) (hz : z < N) : (movedN N A h).testBit z = A.testBit (if h ≤ z then z - h else z + N - h) := by
  unfold movedN
  rw [Nat.testBit_and, Nat.testBit_two_pow_sub_one, Nat.testBit_or, ← Nat.shiftLeft_eq, ← Nat.shiftRight_eq_div_pow, Nat.testBit_shiftLeft, Nat.testBit_shiftRight]
  split
  · rename_i h1
    rw [bit_high hA (show N ≤ N - h + z by omega)]
    simp [h1, hz]
  · rename_i h1
    have e : N - h + z = z + N - h := by omega
    rw [e]
    simp [h1, hz]
def addedN (N A B : Nat) : Nat := (List.range N).foldl (fun t h => if B.testBit h = true then t ||| movedN N A h else t) 0
theorem fold_lt {N : Nat} {c : Nat → Bool} {f : Nat → Nat} (hf : ∀ h, f h < 2 ^ N) : ∀ (l : List Nat) (t : Nat), t < 2 ^ N → l.foldl (fun t h => if c h = true then t ||| f h else t) t < 2 ^ N
  | [], t, ht => ht
  | x :: r, t, ht => by
    rw [List.foldl_cons]
    refine fold_lt hf r _ ?_
    split
    · exact Nat.or_lt_two_pow ht (hf x)
    · exact ht
theorem fold_bit {c : Nat → Bool} {f : Nat → Nat} {z : Nat} : ∀ (l : List Nat) (t : Nat), (l.foldl (fun t h => if c h = true then t ||| f h else t) t).testBit z = (t.testBit z || l.any fun h => c h && (f h).testBit z)
  | [], t => by simp
  | x :: r, t => by
    rw [List.foldl_cons, fold_bit r, List.any_cons]
    by_cases h : c x = true
    · rw [if_pos h, Nat.testBit_or, h, Bool.true_and, Bool.or_assoc]
    · rw [if_neg h]
      simp [h]
theorem added_lt (N A B : Nat) : addedN N A B < 2 ^ N := fold_lt (moved_lt N A) _ _ (Nat.two_pow_pos N)
theorem added_eq {N A B : Nat} (hA : A < 2 ^ N) : addedN N A B = sums N A B := by
  refine set_ext (added_lt N A B) fun z hz => ?_
  unfold addedN
  rw [fold_bit, Nat.zero_testBit, Bool.false_or, Bool.eq_iff_iff]
  simp only [remainders, has, List.any_eq_true, List.mem_range, Bool.and_eq_true, beq_iff_eq]
  constructor
  · rintro ⟨h, hh, hB, hm⟩
    rw [moved_bit hA hh hz] at hm
    refine ⟨if h ≤ z then z - h else z + N - h, by split <;> omega, hm, h, hh, hB, ?_⟩
    by_cases c : h ≤ z
    · rw [if_pos c, mod_cases (by omega)]
      split <;> omega
    · rw [if_neg c, mod_cases (by omega)]
      split <;> omega
  · rintro ⟨x, hx, hA', y, hy, hB, hs⟩
    refine ⟨y, hy, hB, ?_⟩
    rw [moved_bit hA hy hz]
    rw [mod_cases (by omega)] at hs
    have e : (if y ≤ z then z - y else z + N - y) = x := by
      split <;> split at hs <;> omega
    rw [e]
    exact hA'
theorem sums_lt (N A B : Nat) : sums N A B < 2 ^ N := setOf_lt _ _
theorem often_lt {N A k : Nat} (hN : 1 ≤ N) : often N A k < 2 ^ N := by
  cases k with
  | zero =>
    show 1 < 2 ^ N
    exact Nat.lt_of_lt_of_le (show 1 < 2 ^ 1 by decide) (Nat.pow_le_pow_right (by decide) hN)
  | succ k => exact sums_lt _ _ _
def oftenN (N A k : Nat) : Nat := (List.range k).foldl (fun t _ => addedN N t A) 1
theorem often_eq {N A : Nat} (hN : 1 ≤ N) : ∀ k, oftenN N A k = often N A k
  | 0 => rfl
  | k + 1 => by
    have e : oftenN N A (k + 1) = addedN N (oftenN N A k) A := by
      unfold oftenN
      rw [List.range_succ, List.foldl_append]
      rfl
    rw [e, often_eq hN k, added_eq (often_lt hN)]
    rfl
theorem many_sum (N A : Nat) : ((List.range N).map fun x => A / 2 ^ x % 2).sum = many N A := by
  unfold many remainders
  induction N with
  | zero => rfl
  | succ N ih =>
    rw [List.range_succ, List.map_append, List.sum_append, ih, List.filter_append, List.length_append]
    have : ([N].map fun x => A / 2 ^ x % 2).sum = ([N].filter fun x => has A x).length := by
      unfold has
      rw [List.map_cons, List.map_nil, List.sum_cons, List.sum_nil, List.filter_cons, Nat.testBit_eq_decide_div_mod_eq]
      by_cases h : A / 2 ^ N % 2 = 1
      · simp [h]
      · have : A / 2 ^ N % 2 = 0 := by omega
        simp [this]
    rw [this]
end RS

open PySem PySem.W
namespace RS
theorem and_nat (x y : Nat) : Builtin.bitAnd (x : Int) (y : Int) = ((x &&& y : Nat) : Int) := by
  rw [PyProof.Rows.bitAnd_pp (Int.natCast_nonneg x) (Int.natCast_nonneg y), Int.toNat_natCast, Int.toNat_natCast]
theorem or_add_and : ∀ (k x y : Nat), x < 2 ^ k → x + y = (x ||| y) + (x &&& y)
  | 0, x, y, h => by
    have : x = 0 := by omega
    subst this
    simp
  | k + 1, x, y, h => by
    have ih := or_add_and k (x / 2) (y / 2) (by rw [Nat.pow_succ] at h; omega)
    rw [← Nat.or_div_two, ← Nat.and_div_two] at ih
    have o := @Nat.or_mod_two_eq_one x y
    have a := @Nat.and_mod_two_eq_one x y
    omega
theorem or_nat (x y : Nat) : Builtin.bitOr (x : Int) (y : Int) = ((x ||| y : Nat) : Int) := by
  rw [PyProof.Rows.bitOr_and, and_nat]
  have h := or_add_and x x y Nat.lt_two_pow_self
  omega
theorem pow_nat (k : Nat) : (2 : Int) ^ k = ((2 ^ k : Nat) : Int) := (kbt_cast k).symm
theorem fdiv_nat (x k : Nat) : (x : Int).fdiv (2 ^ k) = ((x / 2 ^ k : Nat) : Int) := by
  rw [pow_nat, Int.fdiv_eq_ediv_of_nonneg _ (Int.natCast_nonneg _), Int.natCast_ediv]
theorem and_one (x : Nat) : Builtin.bitAnd (x : Int) 1 = ((x % 2 : Nat) : Int) := by
  have h := and_nat x 1
  rw [Nat.and_one_is_mod] at h
  exact h
theorem full_nat (N : Nat) : (1 : Int) * 2 ^ N - 1 = ((2 ^ N - 1 : Nat) : Int) := by
  have := Nat.two_pow_pos N
  rw [Int.one_mul, pow_nat]
  omega
theorem mul_nat (x k : Nat) : (x : Int) * 2 ^ k = ((x * 2 ^ k : Nat) : Int) := by
  rw [pow_nat, Int.natCast_mul]
def movedI (n a h : Int) : Int := Builtin.bitAnd (Builtin.bitOr (a * 2 ^ h.toNat) (a.fdiv (2 ^ (n - h).toNat))) (1 * 2 ^ n.toNat - 1)
theorem movedI_nat (N A h : Nat) : movedI (N : Int) (A : Int) (h : Int) = ((movedN N A h : Nat) : Int) := by
  unfold movedI movedN
  have e : ((N : Int) - (h : Int)).toNat = N - h := by omega
  rw [e, Int.toNat_natCast, Int.toNat_natCast, mul_nat, fdiv_nat, full_nat, or_nat, and_nat]
def addedI (n a b : Int) : Int := (rangeKs 0 (n - 0).toNat).foldl (fun a' k' => if Builtin.bitAnd (b.fdiv (2 ^ k'.toNat)) 1 = 1 then Builtin.bitOr a' (movedI n a k') else a') 0
theorem range_nat (N : Nat) : rangeKs 0 ((N : Int) - 0).toNat = (List.range N).map fun (i : Nat) => (i : Int) := by
  unfold rangeKs
  have e : ((N : Int) - 0).toNat = N := by omega
  rw [e]
  refine List.map_congr_left fun i _ => ?_
  omega
theorem bit_nat (B h : Nat) : (Builtin.bitAnd ((B : Int).fdiv (2 ^ (h : Int).toNat)) 1 = 1) ↔ B.testBit h = true := by
  rw [Int.toNat_natCast, fdiv_nat, and_one, Nat.testBit_eq_decide_div_mod_eq, decide_eq_true_eq]
  omega
theorem addedI_nat (N A B : Nat) : addedI (N : Int) (A : Int) (B : Int) = ((addedN N A B : Nat) : Int) := by
  unfold addedI addedN
  rw [range_nat, List.foldl_map]
  have key : ∀ (l : List Nat) (t : Nat), l.foldl (fun (a' : Int) (k' : Nat) => if Builtin.bitAnd ((B : Int).fdiv (2 ^ (k' : Int).toNat)) 1 = 1 then Builtin.bitOr a' (movedI N A k') else a') (t : Int) = ((l.foldl (fun t h => if B.testBit h = true then t ||| movedN N A h else t) t : Nat) : Int) := by
    intro l
    induction l with
    | nil => intro t; rfl
    | cons x r ih =>
      intro t
      rw [List.foldl_cons, List.foldl_cons]
      by_cases h : B.testBit x = true
      · rw [if_pos ((bit_nat B x).mpr h), if_pos h, movedI_nat, or_nat, ih]
      · rw [if_neg (fun q => h ((bit_nat B x).mp q)), if_neg h, ih]
  exact key (List.range N) 0
def manyI (n a : Int) : Int := ((rangeKs 0 (n - 0).toNat).map fun k' => Builtin.bitAnd (a.fdiv (2 ^ k'.toNat)) 1).sum
theorem sum_nat (f : Nat → Nat) : ∀ l : List Nat, (l.map fun i => ((f i : Nat) : Int)).sum = (((l.map f).sum : Nat) : Int)
  | [] => rfl
  | x :: r => by
    rw [List.map_cons, List.sum_cons, List.map_cons, List.sum_cons, sum_nat f r, Int.natCast_add]
theorem manyI_nat (N A : Nat) : manyI (N : Int) (A : Int) = ((Sv63.many N A : Nat) : Int) := by
  unfold manyI
  rw [range_nat, List.map_map, ← many_sum, ← sum_nat]
  congr 1
  refine List.map_congr_left fun i _ => ?_
  show Builtin.bitAnd ((A : Int).fdiv (2 ^ (i : Int).toNat)) 1 = _
  rw [Int.toNat_natCast, fdiv_nat, and_one]
/-- n and a set as the program looks at them -/
theorem wrong_nat {n a : Int} (h1 : 1 ≤ n) (ha : 0 ≤ a) : a.fdiv (2 ^ n.toNat) = 0 ↔ a.toNat < 2 ^ n.toNat := by
  obtain ⟨A, rfl⟩ := Int.eq_ofNat_of_zero_le ha
  rw [fdiv_nat, Int.toNat_natCast]
  have p := Nat.two_pow_pos n.toNat
  constructor
  · intro h
    have h : A / 2 ^ n.toNat = 0 := by omega
    exact Nat.lt_of_div_eq_zero p h
  · intro h
    rw [Nat.div_eq_of_lt h]
    rfl
theorem good_no {n : Int} {a : Nat} (h : n < 1 ∨ 64 < n) : Sv63.good n a = false := by
  unfold Sv63.good Sv63.within
  rcases h with h | h
  · have : decide (1 ≤ n) = false := by simp; omega
    rw [this]; simp
  · have : decide (n ≤ 64) = false := by simp; omega
    rw [this]; simp
theorem good_big {n a : Int} (h1 : 1 ≤ n) (ha : 0 ≤ a) (h : ¬ a.fdiv (2 ^ n.toNat) = 0) : Sv63.good n a.toNat = false := by
  unfold Sv63.good
  have : decide (a.toNat < 2 ^ n.toNat) = false := by
    simp only [decide_eq_false_iff_not]
    exact fun q => h ((wrong_nat h1 ha).mpr q)
  rw [this, Bool.and_false]
theorem good_yes {n a : Int} (h1 : 1 ≤ n) (h64 : n ≤ 64) (ha : 0 ≤ a) (h : a.fdiv (2 ^ n.toNat) = 0) : Sv63.good n a.toNat = true := by
  unfold Sv63.good Sv63.within
  have := (wrong_nat h1 ha).mp h
  simp [this, h1, h64]
end RS

open PySem PySem.W
namespace RS
theorem dec_cons {c : Codec} {cs : List Codec} {d : WData} {ds : List WData} (h : (Codec.decAll (c :: cs) (d :: ds)).isSome = true) :
    (Codec.decAll [c] [d]).isSome = true ∧ (Codec.decAll cs ds).isSome = true := by
  have e : Codec.decAll (c :: cs) (d :: ds) = Codec.both Prod.mk (c.dec d) (Codec.decAll cs ds) := rfl
  have e1 : Codec.decAll [c] [d] = Codec.both Prod.mk (c.dec d) (some ()) := rfl
  rw [e] at h
  rw [e1]
  cases h1 : c.dec d with
  | none =>
    rw [h1] at h
    cases h
  | some a =>
    cases h2 : Codec.decAll cs ds with
    | none =>
      rw [h1, h2] at h
      cases h
    | some r => exact ⟨rfl, rfl⟩
theorem dec_join {c : Codec} {cs : List Codec} {d : WData} {ds : List WData} {a : c.denote} {r : Codec.denoteAll cs} (h1 : Codec.decAll [c] [d] = some (a, ())) (h2 : Codec.decAll cs ds = some r) :
    Codec.decAll (c :: cs) (d :: ds) = some (a, r) := by
  have e : Codec.decAll (c :: cs) (d :: ds) = Codec.both Prod.mk (c.dec d) (Codec.decAll cs ds) := rfl
  have e1 : Codec.decAll [c] [d] = Codec.both Prod.mk (c.dec d) (some ()) := rfl
  rw [e1] at h1
  rw [e, h2]
  cases h3 : c.dec d with
  | none =>
    rw [h3] at h1
    cases h1
  | some b =>
    rw [h3] at h1
    cases h1
    rfl
theorem dec_int {lo hi k : Int} (h : (Codec.decAll [.int lo hi] [WData.int k]).isSome = true) : Codec.decAll [.int lo hi] [WData.int k] = some (k, ()) ∧ lo ≤ k ∧ k ≤ hi := by
  have e : Codec.decAll [.int lo hi] [WData.int k] = Codec.both Prod.mk (if Codec.inInt lo hi k = true then some k else none) (some ()) := rfl
  rw [e] at h ⊢
  cases h1 : Codec.inInt lo hi k with
  | false =>
    rw [h1] at h
    cases h
  | true =>
    unfold Codec.inInt at h1
    simp only [Bool.and_eq_true, decide_eq_true_eq] at h1
    exact ⟨rfl, h1.1, h1.2⟩
theorem same_one {x : Int} {k : List Int} (h : [x] = k) : same (ofPy (PyData.list [PyData.int x])) (WData.list (k.map WData.int)) = true := by
  subst h
  exact same_self _
theorem same_two {x y : Int} {k : List Int} (h : [x, y] = k) : same (ofPy (PyData.list [PyData.int x, PyData.int y])) (WData.list (k.map WData.int)) = true := by
  subst h
  exact same_self _
end RS

open PySem PySem.W
namespace RS
def oftenI (n a : Int) (m : Nat) : Int := (List.range m).foldl (fun t _ => addedI n t a) 1
structure Walk (n a : Int) (m : Nat) (t : Int) : Prop where
  eq : t = oftenI n a m
theorem oftenI_succ (n a : Int) (m : Nat) : oftenI n a (m + 1) = addedI n (oftenI n a m) a := by
  unfold oftenI
  rw [List.range_succ, List.foldl_append]
  rfl
theorem added_in {n a b : Int} (h1 : 1 ≤ n) (h64 : n ≤ 64) (ha : 0 ≤ a) (hb : 0 ≤ b) : 0 ≤ addedI n a b ∧ addedI n a b ≤ 18446744073709551615 := by
  obtain ⟨N, rfl⟩ := Int.eq_ofNat_of_zero_le (show 0 ≤ n by omega)
  obtain ⟨A, rfl⟩ := Int.eq_ofNat_of_zero_le ha
  obtain ⟨B, rfl⟩ := Int.eq_ofNat_of_zero_le hb
  rw [addedI_nat]
  have h := added_lt N A B
  have p : 2 ^ N ≤ 2 ^ 64 := Nat.pow_le_pow_right (by decide) (by omega)
  have e : 2 ^ 64 = 18446744073709551616 := by decide
  omega
theorem bounds {n a k : Int} (h : PySem.Challenge.rw_remaindersums_s02_often.pre [WData.int n, WData.int a, WData.int k] = true) : 0 ≤ a ∧ a ≤ 18446744073709551615 := by
  obtain ⟨q1, q2⟩ := dec_cons (os_pre_isSome h)
  obtain ⟨q2, q3⟩ := dec_cons q2
  obtain ⟨e2, lo2, hi2⟩ := dec_int q2
  exact ⟨lo2, hi2⟩
theorem start {n a k : Int} (hp : PySem.Challenge.rw_remaindersums_s02_often.pre [WData.int n, WData.int a, WData.int k] = true) (h1 : 1 ≤ n) (h64 : n ≤ 64) :
    1 ≤ n ∧ n ≤ 64 ∧ 0 ≤ a ∧ a ≤ 18446744073709551615 ∧ (0 : Int) ≤ 1 ∧ (1 : Int) ≤ 18446744073709551615 ∧ Walk n a ([] : List Int).length 1 :=
  ⟨h1, h64, (bounds hp).1, (bounds hp).2, by decide, by decide, ⟨rfl⟩⟩
theorem turn {n a t v : Int} {pre : List Int} (h : Walk n a pre.length t) (h1 : 1 ≤ n) (h64 : n ≤ 64) (ha : 0 ≤ a) (ha2 : a ≤ 18446744073709551615) (t0 : 0 ≤ t) :
    1 ≤ n ∧ n ≤ 64 ∧ 0 ≤ a ∧ a ≤ 18446744073709551615 ∧ 0 ≤ addedI n t a ∧ addedI n t a ≤ 18446744073709551615 ∧ Walk n a (pre ++ [v]).length (addedI n t a) := by
  have b := added_in h1 h64 t0 ha
  refine ⟨h1, h64, ha, ha2, b.1, b.2, ⟨?_⟩⟩
  have l : (pre ++ [v]).length = pre.length + 1 := by simp
  rw [l, oftenI_succ, h.eq]
structure AddW (n a b : Int) (pre : List Int) (t : Int) : Prop where
  eq : t = pre.foldl (fun a' k' => if Builtin.bitAnd (b.fdiv (2 ^ k'.toNat)) 1 = 1 then Builtin.bitOr a' (movedI n a k') else a') 0
theorem startA {n a b : Int} (h1 : 1 ≤ n) (h64 : n ≤ 64) (ha : 0 ≤ a) (ha2 : a ≤ 18446744073709551615) (hb : 0 ≤ b) (hb2 : b ≤ 18446744073709551615) :
    1 ≤ n ∧ n ≤ 64 ∧ 0 ≤ a ∧ a ≤ 18446744073709551615 ∧ 0 ≤ b ∧ b ≤ 18446744073709551615 ∧ AddW n a b [] 0 := ⟨h1, h64, ha, ha2, hb, hb2, ⟨rfl⟩⟩
theorem turnA {n a b t h : Int} {pre : List Int} (w : AddW n a b pre t) (c : Builtin.bitAnd (b.fdiv (2 ^ h.toNat)) 1 = 1) (h1 : 1 ≤ n) (h64 : n ≤ 64) (ha : 0 ≤ a) (ha2 : a ≤ 18446744073709551615) (hb : 0 ≤ b) (hb2 : b ≤ 18446744073709551615) :
    1 ≤ n ∧ n ≤ 64 ∧ 0 ≤ a ∧ a ≤ 18446744073709551615 ∧ 0 ≤ b ∧ b ≤ 18446744073709551615 ∧ AddW n a b (pre ++ [h]) (Builtin.bitOr t (movedI n a h)) := by
  refine ⟨h1, h64, ha, ha2, hb, hb2, ⟨?_⟩⟩
  rw [List.foldl_append, List.foldl_cons, List.foldl_nil, if_pos c, ← w.eq]
theorem turnB {n a b t h : Int} {pre : List Int} (w : AddW n a b pre t) (c : ¬ Builtin.bitAnd (b.fdiv (2 ^ h.toNat)) 1 = 1) (h1 : 1 ≤ n) (h64 : n ≤ 64) (ha : 0 ≤ a) (ha2 : a ≤ 18446744073709551615) (hb : 0 ≤ b) (hb2 : b ≤ 18446744073709551615) :
    1 ≤ n ∧ n ≤ 64 ∧ 0 ≤ a ∧ a ≤ 18446744073709551615 ∧ 0 ≤ b ∧ b ≤ 18446744073709551615 ∧ AddW n a b (pre ++ [h]) t := by
  refine ⟨h1, h64, ha, ha2, hb, hb2, ⟨?_⟩⟩
  rw [List.foldl_append, List.foldl_cons, List.foldl_nil, if_neg c, ← w.eq]
theorem turn' {n a t t' v : Int} {pre : List Int} (h : Walk n a pre.length t) (w : AddW n t a (rangeKs 0 (n - 0).toNat) t') (h1 : 1 ≤ n) (h64 : n ≤ 64) (ha : 0 ≤ a) (ha2 : a ≤ 18446744073709551615) (t0 : 0 ≤ t) :
    1 ≤ n ∧ n ≤ 64 ∧ 0 ≤ a ∧ a ≤ 18446744073709551615 ∧ 0 ≤ t' ∧ t' ≤ 18446744073709551615 ∧ Walk n a (pre ++ [v]).length t' := by
  have e : t' = addedI n t a := w.eq
  subst e
  exact turn h h1 h64 ha ha2 t0
theorem outA {n a b t : Int} (w : AddW n a b (rangeKs 0 (n - 0).toNat) t) : t = addedI n a b := w.eq
theorem often_def (n a k : Int) : PySv63.often n a k = Sv63Neutral.on (Sv63.good n a.toNat && Sv63.within k 0 1000) true fun _ => Sv63Neutral.say (Sv63.told n.toNat (Sv63.often n.toNat a.toNat k.toNat)) := rfl
theorem end_often {n a k : Int} {l : List Int} (h : l = PySv63.often n a k) : l = Codec.app PySem.Challenge.rw_remaindersums_s02_often.args PySem.Challenge.rw_remaindersums_s02_often.f (n, a, k, ()) := h
theorem often_no {n a k : Int} (h : n < 1 ∨ 64 < n) : [-2] = PySv63.often n a k := by
  rw [often_def, good_no h]
  rfl
theorem often_noa {n a k : Int} (h : a.fdiv (2 ^ n.toNat) ≠ 0) (h1 : ¬ n < 1) (ha : 0 ≤ a) : [-2] = PySv63.often n a k := by
  rw [often_def, good_big (by omega) ha h]
  rfl
theorem often_nok {n a k : Int} (h : k < 0 ∨ 1000 < k) : [-2] = PySv63.often n a k := by
  have e : Sv63.within k 0 1000 = false := by
    unfold Sv63.within
    rcases h with h | h
    · have : decide (0 ≤ k) = false := by simp; omega
      rw [this]; simp
    · have : decide (k ≤ 1000) = false := by simp; omega
      rw [this]; simp
  rw [often_def, e, Bool.and_false]
  rfl
theorem oftenI_nat (N A : Nat) : ∀ m : Nat, oftenI (N : Int) (A : Int) m = ((oftenN N A m : Nat) : Int)
  | 0 => rfl
  | m + 1 => by
    have e : oftenN N A (m + 1) = addedN N (oftenN N A m) A := by
      unfold oftenN
      rw [List.range_succ, List.foldl_append]
      rfl
    rw [oftenI_succ, oftenI_nat N A m, addedI_nat, e]
theorem often_yes {n a k t : Int} (w : Walk n a (rangeKs 0 (k - 0).toNat).length t) (h : a.fdiv (2 ^ n.toNat) = 0) (h1 : 1 ≤ n) (h64 : n ≤ 64) (ha : 0 ≤ a) (k0 : 0 ≤ k) (k1 : k ≤ 1000) :
    [manyI n t, t] = PySv63.often n a k := by
  have e : Sv63.within k 0 1000 = true := by
    unfold Sv63.within
    simp [k0, k1]
  rw [often_def, good_yes h1 h64 ha h, e]
  obtain ⟨N, rfl⟩ := Int.eq_ofNat_of_zero_le (show 0 ≤ n by omega)
  obtain ⟨A, rfl⟩ := Int.eq_ofNat_of_zero_le ha
  obtain ⟨m, rfl⟩ := Int.eq_ofNat_of_zero_le k0
  have et : t = ((Sv63.often N A m : Nat) : Int) := by
    rw [w.eq, rangeKs_length]
    have em : ((m : Int) - 0).toNat = m := by omega
    rw [em, oftenI_nat, often_eq (by omega)]
  rw [et, manyI_nat]
  rfl
end RS
set_option maxRecDepth 100000 in
set_option maxHeartbeats 8000000 in
theorem PySem.Challenge.cw_remaindersums_s02_often_holds : PySem.Challenge.rw_remaindersums_s02_often.Holds := by
  k_with "call ref" => k_call_by "moved" RS.movedI (fun (n a h : Int) => 1 ≤ n ∧ n ≤ 64 ∧ 0 ≤ a ∧ a ≤ 18446744073709551615 ∧ 0 ≤ h ∧ h < n)
  k_with "state" => first
    | exact RS.start (by assumption) (by omega) (by omega)
    | exact RS.turn' (by assumption) (by assumption) (by omega) (by omega) (by omega) (by omega) (by omega)
    | exact RS.startA (by omega) (by omega) (by omega) (by omega) (by omega) (by omega)
    | exact RS.turnA (by assumption) (by assumption) (by omega) (by omega) (by omega) (by omega) (by omega) (by omega)
    | exact RS.turnB (by assumption) (by assumption) (by omega) (by omega) (by omega) (by omega) (by omega) (by omega)
  k_with "pyIter ref" => first
    | (k_of "turn" => k_state_given ["n", "a"] (fun n a pre t => 1 ≤ n ∧ n ≤ 64 ∧ 0 ≤ a ∧ a ≤ 18446744073709551615 ∧ 0 ≤ t ∧ t ≤ 18446744073709551615 ∧ RS.Walk n a pre.length t) "total")
    | (k_of "h" => k_state_given ["n", "a", "b"] (fun n a b pre t => 1 ≤ n ∧ n ≤ 64 ∧ 0 ≤ a ∧ a ≤ 18446744073709551615 ∧ 0 ≤ b ∧ b ≤ 18446744073709551615 ∧ RS.AddW n a b pre t) "total")
  open_ks with [.int 0, .int 0, .int 0]
  all_goals
    obtain ⟨q1, q2⟩ := RS.dec_cons (os_pre_isSome hpre)
    obtain ⟨q2, q3⟩ := RS.dec_cons q2
    obtain ⟨e1, lo1, hi1⟩ := RS.dec_int q1
    obtain ⟨e2, lo2, hi2⟩ := RS.dec_int q2
    obtain ⟨e3, lo3, hi3⟩ := RS.dec_int q3
    refine os_post (RS.dec_join e1 (RS.dec_join e2 e3)) ?_
  all_goals first
    | exact RS.same_one (RS.end_often (RS.often_no (by omega)))
    | exact RS.same_one (RS.end_often (RS.often_noa (by assumption) (by omega) (by omega)))
    | exact RS.same_one (RS.end_often (RS.often_nok (by omega)))
    | exact RS.same_two (RS.end_often (RS.often_yes (by assumption) (by assumption) (by omega) (by omega) (by omega) (by omega) (by omega)))
#print axioms PySem.Challenge.cw_remaindersums_s02_often_holds
