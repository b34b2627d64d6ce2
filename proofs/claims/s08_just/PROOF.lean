import PyProof.Rows.All
import KE.OsGo
import PySem.Challenge.RW_remaindersums_s08_just
set_option Elab.async false
namespace RS
open Sv63
theorem setOf_succ (N : Nat) (p : Nat → Bool) : setOf (N + 1) p = setOf N p + (if p N = true then 2 ^ N else 0) := by
  unfold setOf remainders
  rw [List.range_succ, List.map_append, List.sum_append]
  simp
theorem setOf_lt (N : Nat) (p : Nat → Bool) : setOf N p < 2 ^ N := by
  induction N with
  | zero => simp [setOf, remainders]
  | succ N ih =>
    rw [setOf_succ, Nat.pow_succ]
    split <;> omega
theorem bit_high {a N z : Nat} (h : a < 2 ^ N) (hz : N ≤ z) : a.testBit z = false :=
  Nat.testBit_lt_two_pow (Nat.lt_of_lt_of_le h (Nat.pow_le_pow_right (by decide) hz))
theorem setOf_bit (N : Nat) (p : Nat → Bool) (z : Nat) : (setOf N p).testBit z = (decide (z < N) && p z) := by
  induction N with
  | zero => simp [setOf, remainders]
  | succ N ih =>
    rw [setOf_succ]
    by_cases hz : z < N
    · have e : decide (z < N + 1) = decide (z < N) := by simp [hz]; omega
      rw [e, ← ih]
      split
      · rw [Nat.add_comm, Nat.testBit_two_pow_add_gt hz]
      · rw [Nat.add_zero]
    · by_cases hzN : z = N
      · subst hzN
        have f := Nat.testBit_lt_two_pow (setOf_lt z p)
        by_cases hp : p z = true
        · rw [if_pos hp, Nat.add_comm, Nat.testBit_two_pow_add_eq, f, hp]
          simp
        · rw [if_neg hp, Nat.add_zero, f]
          simp [hp]
      · have l : setOf N p + (if p N = true then 2 ^ N else 0) < 2 ^ (N + 1) := by
          rw [← setOf_succ]
          exact setOf_lt _ _
        rw [bit_high l (by omega)]
        have : decide (z < N + 1) = false := by simp; omega
        rw [this, Bool.false_and]
theorem set_ext {N a : Nat} {p : Nat → Bool} (h : a < 2 ^ N) (hb : ∀ z, z < N → a.testBit z = p z) : a = setOf N p := by
  refine Nat.eq_of_testBit_eq fun z => ?_
  rw [setOf_bit]
  by_cases hz : z < N
  · rw [hb z hz]
    simp [hz]
  · rw [bit_high h (by omega)]
    simp [hz]
theorem mod_cases {x N : Nat} (h : x < 2 * N) : x % N = if x < N then x else x - N := by
  split
  · rename_i h1
    exact Nat.mod_eq_of_lt h1
  · rename_i h1
    rw [Nat.mod_eq_sub_mod (by omega)]
    exact Nat.mod_eq_of_lt (by omega)
def movedN (N A h : Nat) : Nat := ((A * 2 ^ h) ||| (A / 2 ^ (N - h))) &&& (2 ^ N - 1)
theorem moved_lt (N A h : Nat) : movedN N A h < 2 ^ N := by
  unfold movedN
  rw [Nat.and_two_pow_sub_one_eq_mod]
  exact Nat.mod_lt _ (Nat.two_pow_pos N)
theorem moved_bit {N A h z : Nat} (hA : A < 2 ^ N) (hh : h < N) (hz : z < N) : (movedN N A h).testBit z = A.testBit (if h ≤ z then z - h else z + N - h) := by
  unfold movedN
  rw [Nat.testBit_and, Nat.testBit_two_pow_sub_one, Nat.testBit_or, ← Nat.shiftLeft_eq, ← Nat.shiftRight_eq_div_pow, Nat.testBit_shiftLeft, Nat.testBit_shiftRight]
  split
  · rename_i h1
    rw [bit_high hA (show N ≤ N - h + z by omega)]
    simp [h1, hz]
  · rename_i h1
    have e : N - h + z = z + N - h := by omega
    rw [e]
    simp [h1, hz]
def addedN (N A B : Nat) : Nat := (List.range N).foldl (fun t h => if B.testBit h = true then t ||| movedN N A h else t) 0
theorem fold_lt {N : Nat} {c : Nat → Bool} {f : Nat → Nat} (hf : ∀ h, f h < 2 ^ N) : ∀ (l : List Nat) (t : Nat), t < 2 ^ N → l.foldl (fun t h => if c h = true then t ||| f h else t) t < 2 ^ N
  | [], t, ht => ht
  | x :: r, t, ht => by
    rw [List.foldl_cons]
    refine fold_lt hf r _ ?_
    split
    · exact Nat.or_lt_two_pow ht (hf x)
    · exact ht
theorem fold_bit {c : Nat → Bool} {f : Nat → Nat} {z : Nat} : ∀ (l : List Nat) (t : Nat), (l.foldl (fun t h => if c h = true then t ||| f h else t) t).testBit z = (t.testBit z || l.any fun h => c h && (f h).testBit z)
  | [], t => by simp
  | x :: r, t => by
    rw [List.foldl_cons, fold_bit r, List.any_cons]
    by_cases h : c x = true
    · rw [if_pos h, Nat.testBit_or, h, Bool.true_and, Bool.or_assoc]
    · rw [if_neg h]
      simp [h]
theorem added_lt (N A B : Nat) : addedN N A B < 2 ^ N := fold_lt (moved_lt N A) _ _ (Nat.two_pow_pos N)
theorem added_eq {N A B : Nat} (hA : A < 2 ^ N) : addedN N A B = sums N A B := by
  refine set_ext (added_lt N A B) fun z hz => ?_
  unfold addedN
  rw [fold_bit, Nat.zero_testBit, Bool.false_or, Bool.eq_iff_iff]
  simp only [remainders, has, List.any_eq_true, List.mem_range, Bool.and_eq_true, beq_iff_eq]
  constructor
  · rintro ⟨h, hh, hB, hm⟩
    rw [moved_bit hA hh hz] at hm
    refine ⟨if h ≤ z then z - h else z + N - h, by split <;> omega, hm, h, hh, hB, ?_⟩
    by_cases c : h ≤ z
    · rw [if_pos c, mod_cases (by omega)]
      split <;> omega
    · rw [if_neg c, mod_cases (by omega)]
      split <;> omega
  · rintro ⟨x, hx, hA', y, hy, hB, hs⟩
    refine ⟨y, hy, hB, ?_⟩
    rw [moved_bit hA hy hz]
    rw [mod_cases (by omega)] at hs
    have e : (if y ≤ z then z - y else z + N - y) = x := by
      split <;> split at hs <;> omega
    rw [e]
    exact hA'
theorem sums_lt (N A B : Nat) : sums N A B < 2 ^ N := setOf_lt _ _
theorem often_lt {N A k : Nat} (hN : 1 ≤ N) : often N A k < 2 ^ N := by
  cases k with
  | zero =>
    show 1 < 2 ^ N
    exact Nat.lt_of_lt_of_le (show 1 < 2 ^ 1 by decide) (Nat.pow_le_pow_right (by decide) hN)
  | succ k => exact sums_lt _ _ _
def oftenN (N A k : Nat) : Nat := (List.range k).foldl (fun t _ => addedN N t A) 1
theorem often_eq {N A : Nat} (hN : 1 ≤ N) : ∀ k, oftenN N A k = often N A k
  | 0 => rfl
  | k + 1 => by
    have e : oftenN N A (k + 1) = addedN N (oftenN N A k) A := by
      unfold oftenN
      rw [List.range_succ, List.foldl_append]
      rfl
    rw [e, often_eq hN k, added_eq (often_lt hN)]
    rfl
theorem many_sum (N A : Nat) : ((List.range N).map fun x => A / 2 ^ x % 2).sum = many N A := by
  unfold many remainders
  induction N with
  | zero => rfl
  | succ N ih =>
    rw [List.range_succ, List.map_append, List.sum_append, ih, List.filter_append, List.length_append]
    have : ([N].map fun x => A / 2 ^ x % 2).sum = ([N].filter fun x => has A x).length := by
      unfold has
      rw [List.map_cons, List.map_nil, List.sum_cons, List.sum_nil, List.filter_cons, Nat.testBit_eq_decide_div_mod_eq]
      by_cases h : A / 2 ^ N % 2 = 1
      · simp [h]
      · have : A / 2 ^ N % 2 = 0 := by omega
        simp [this]
    rw [this]
end RS

namespace RS
open Sv63
/-! What the specification says of two, still, step, free, some and just, bit by bit -/
theorem two_bit (N A z : Nat) : (two N A).testBit z = true ↔ z < N ∧ ∃ x, x < N ∧ A.testBit x = true ∧ ∃ y, y < N ∧ A.testBit y = true ∧ x ≠ y ∧ (x + y) % N = z := by
  unfold two
  rw [setOf_bit]
  simp only [remainders, has, Bool.and_eq_true, decide_eq_true_eq, List.any_eq_true, List.mem_range, bne_iff_ne, beq_iff_eq]
theorem two_lt (N A : Nat) : two N A < 2 ^ N := setOf_lt _ _
theorem bits_lt {N A x : Nat} (h : A < 2 ^ N) (hx : A.testBit x = true) : x < N := by
  refine Nat.lt_of_not_le fun q => ?_
  rw [bit_high h q] at hx
  exact Bool.noConfusion hx
/-- a set moved: the specification's and the program's -/
theorem moved_eq {N A h : Nat} (hA : A < 2 ^ N) (hh : h < N) : movedN N A h = moved N A h := by
  refine set_ext (moved_lt N A h) fun z hz => ?_
  rw [moved_bit hA hh hz, Bool.eq_iff_iff]
  simp only [remainders, has, List.any_eq_true, List.mem_range, Bool.and_eq_true, beq_iff_eq]
  constructor
  · intro hm
    refine ⟨if h ≤ z then z - h else z + N - h, by split <;> omega, hm, ?_⟩
    by_cases c : h ≤ z
    · rw [if_pos c, mod_cases (by omega)]
      split <;> omega
    · rw [if_neg c, mod_cases (by omega)]
      split <;> omega
  · rintro ⟨x, hx, hA', hs⟩
    rw [mod_cases (by omega)] at hs
    have e : (if h ≤ z then z - h else z + N - h) = x := by
      split <;> split at hs <;> omega
    rw [e]
    exact hA'
theorem still_bit {N A h : Nat} (hA : A < 2 ^ N) (hh : h < N) : (still N A).testBit h = decide (movedN N A h = A) := by
  unfold still
  rw [setOf_bit, moved_eq hA hh]
  simp [hh]
  rfl
theorem still_lt (N A : Nat) : still N A < 2 ^ N := setOf_lt _ _
/-- the first of a search over a range -/
theorem find_range {p : Nat → Bool} {m k : Nat} (hk : k < m) (hp : p k = true) (hl : ∀ j, j < k → p j = false) : (List.range m).find? p = some k := by
  rw [List.find?_range_eq_some]
  refine ⟨hp, List.mem_range.mpr hk, fun j hj => ?_⟩
  rw [hl j hj]
  rfl
theorem find_range_none {p : Nat → Bool} {m : Nat} (hl : ∀ j, j < m → p j = false) : (List.range m).find? p = none := by
  rw [List.find?_range_eq_none]
  intro j hj
  rw [hl j hj]
  rfl
/-- the best of a search over a range: the first of the most -/
def bestTo (n : Nat) (P : Nat → Bool) (m : Nat) : Nat := (List.range m).foldl (fun (w s : Nat) => if Sv63.many n w < Sv63.many n s ∧ P s = true then s else w) 0
theorem bestTo_succ (n : Nat) (P : Nat → Bool) (m : Nat) : bestTo n P (m + 1) = if Sv63.many n (bestTo n P m) < Sv63.many n m ∧ P m = true then m else bestTo n P m := by
  unfold bestTo
  rw [List.range_succ, List.foldl_append]
  rfl
theorem free_best (n : Nat) : Sv63Neutral.freeOf n = bestTo n (Sv63Neutral.isFree n) (2 ^ n) := rfl
end RS

namespace RS
open Sv63
theorem one_bit {x y : Nat} : (2 ^ x).testBit y = decide (x = y) := Nat.testBit_two_pow
def twoN (N A : Nat) : Nat := (List.range N).foldl (fun t x => if A.testBit x = true then t ||| movedN N (A ^^^ 2 ^ x) x else t) 0
theorem two_eq {N A : Nat} (hA : A < 2 ^ N) : twoN N A = two N A := by
  refine Nat.eq_of_testBit_eq fun z => ?_
  by_cases hz : z < N
  · unfold twoN
    rw [fold_bit, Nat.zero_testBit, Bool.false_or, Bool.eq_iff_iff, two_bit]
    simp only [List.any_eq_true, List.mem_range, Bool.and_eq_true]
    constructor
    · rintro ⟨h, hh, hB, hm⟩
      have hx : A ^^^ 2 ^ h < 2 ^ N := Nat.xor_lt_two_pow hA (Nat.pow_lt_pow_right (by decide) hh)
      rw [moved_bit hx hh hz, Nat.testBit_xor, one_bit] at hm
      refine ⟨hz, if h ≤ z then z - h else z + N - h, by split <;> omega, ?_, h, hh, hB, ?_, ?_⟩
      · by_cases e : h = (if h ≤ z then z - h else z + N - h)
        · rw [← e]
          exact hB
        · rw [decide_eq_false e, Bool.xor_false] at hm
          exact hm
      · intro e
        rw [e, decide_eq_true rfl, hB] at hm
        exact Bool.noConfusion hm
      · by_cases c : h ≤ z
        · rw [if_pos c, mod_cases (by omega)]
          split <;> omega
        · rw [if_neg c, mod_cases (by omega)]
          split <;> omega
    · rintro ⟨_, x, hx, hA', y, hy, hB, hne, hs⟩
      refine ⟨y, hy, hB, ?_⟩
      have hq : A ^^^ 2 ^ y < 2 ^ N := Nat.xor_lt_two_pow hA (Nat.pow_lt_pow_right (by decide) hy)
      rw [moved_bit hq hy hz, Nat.testBit_xor, one_bit]
      rw [mod_cases (by omega)] at hs
      have e : (if y ≤ z then z - y else z + N - y) = x := by
        split <;> split at hs <;> omega
      rw [e, hA', decide_eq_false (fun q => hne q.symm)]
      rfl
  · rw [bit_high (two_lt N A) (by omega)]
    exact bit_high (fold_lt (f := fun x => movedN N (A ^^^ 2 ^ x) x) (fun h => moved_lt N _ h) _ _ (Nat.two_pow_pos N)) (by omega)
def stillN (N A : Nat) : Nat := (List.range N).foldl (fun t h => if decide (movedN N A h = A) = true then t ||| 2 ^ h else t) 0
theorem fold_lt' {N : Nat} {c : Nat → Bool} {f : Nat → Nat} : ∀ (l : List Nat) (t : Nat), (∀ h ∈ l, f h < 2 ^ N) → t < 2 ^ N → l.foldl (fun t h => if c h = true then t ||| f h else t) t < 2 ^ N
  | [], t, _, ht => ht
  | x :: r, t, hf, ht => by
    rw [List.foldl_cons]
    refine fold_lt' r _ (fun h q => hf h (List.mem_cons_of_mem _ q)) ?_
    split
    · exact Nat.or_lt_two_pow ht (hf x (List.mem_cons_self ..))
    · exact ht
theorem still_eq {N A : Nat} (hA : A < 2 ^ N) : stillN N A = still N A := by
  refine Nat.eq_of_testBit_eq fun z => ?_
  by_cases hz : z < N
  · unfold stillN
    rw [fold_bit, Nat.zero_testBit, Bool.false_or, still_bit hA hz, Bool.eq_iff_iff]
    simp only [List.any_eq_true, List.mem_range, Bool.and_eq_true, one_bit, decide_eq_true_eq]
    constructor
    · rintro ⟨h, hh, hm, rfl⟩
      exact hm
    · intro h
      exact ⟨z, hz, h, rfl⟩
  · rw [bit_high (still_lt N A) (by omega)]
    refine bit_high (fold_lt' (f := fun x => 2 ^ x) _ _ (fun h q => ?_) (Nat.two_pow_pos N)) (show N ≤ z by omega)
    exact Nat.pow_lt_pow_right (by decide) (List.mem_range.mp q)
end RS

namespace RS
open Sv63
/-! Pigeonholes, and a set as the list of its members -/
theorem len_sub : ∀ {l f : List Nat}, l.Nodup → (∀ x ∈ l, x ∈ f) → l.length ≤ f.length
  | [], _, _, _ => Nat.zero_le _
  | x :: r, f, hn, hs => by
    have hx := hs x (List.mem_cons_self ..)
    have hr : ∀ y ∈ r, y ∈ f.erase x := by
      intro y hy
      have ne : y ≠ x := by
        intro e
        subst e
        exact (List.nodup_cons.mp hn).1 hy
      exact (List.mem_erase_of_ne ne).mpr (hs y (List.mem_cons_of_mem _ hy))
    have h := len_sub (List.nodup_cons.mp hn).2 hr
    rw [List.length_erase_of_mem hx] at h
    have p : 0 < f.length := List.length_pos_of_mem hx
    rw [List.length_cons]
    omega
theorem sub_full {l f : List Nat} (hl : l.Nodup) (hs : ∀ x ∈ l, x ∈ f) (hf : f.length ≤ l.length) : ∀ x ∈ f, x ∈ l := by
  intro x hx
  apply Classical.byContradiction
  intro hn
  have h := len_sub (l := x :: l) (f := f) (List.nodup_cons.mpr ⟨hn, hl⟩) (by
    intro y hy
    rcases List.mem_cons.mp hy with e | e
    · rw [e]; exact hx
    · exact hs y e)
  rw [List.length_cons] at h
  omega
theorem nodup_of_len : ∀ {l f : List Nat}, f.Nodup → (∀ x ∈ f, x ∈ l) → l.length ≤ f.length → l.Nodup
  | [], _, _, _, _ => List.nodup_nil
  | x :: r, f, hf, hs, hl => by
    rw [List.length_cons] at hl
    have nx : x ∉ r := by
      intro hx
      have h := len_sub (l := f) (f := r) hf (by
        intro y hy
        rcases List.mem_cons.mp (hs y hy) with e | e
        · rw [e]; exact hx
        · exact e)
      omega
    refine List.nodup_cons.mpr ⟨nx, nodup_of_len (f := f.erase x) (List.Nodup.erase _ hf) ?_ ?_⟩
    · intro y hy
      have hy' := List.mem_of_mem_erase hy
      have ne : y ≠ x := fun e => (List.Nodup.not_mem_erase hf) (e ▸ hy)
      rcases List.mem_cons.mp (hs y hy') with e | e
      · exact absurd e ne
      · exact e
    · rw [List.length_erase]
      split <;> omega
def bits (n s : Nat) : List Nat := (List.range n).filter fun x => s.testBit x
theorem bits_len (n s : Nat) : (bits n s).length = many n s := rfl
theorem bits_nodup (n s : Nat) : (bits n s).Nodup := List.Pairwise.filter _ List.nodup_range
theorem mem_bits {n s x : Nat} : x ∈ bits n s ↔ x < n ∧ s.testBit x = true := by
  unfold bits
  rw [List.mem_filter, List.mem_range]
def orMask (l : List Nat) : Nat := l.foldl (fun m x => m ||| 2 ^ x) 0
theorem or_bit : ∀ (l : List Nat) (t z : Nat), (l.foldl (fun m x => m ||| 2 ^ x) t).testBit z = true ↔ t.testBit z = true ∨ z ∈ l
  | [], t, z => by simp
  | x :: r, t, z => by
    rw [List.foldl_cons, or_bit r, Nat.testBit_or, Bool.or_eq_true, one_bit, decide_eq_true_eq, List.mem_cons]
    constructor
    · rintro ((h | h) | h)
      · exact Or.inl h
      · exact Or.inr (Or.inl h.symm)
      · exact Or.inr (Or.inr h)
    · rintro (h | h | h)
      · exact Or.inl (Or.inl h)
      · exact Or.inl (Or.inr h.symm)
      · exact Or.inr h
theorem orMask_bit (l : List Nat) (z : Nat) : (orMask l).testBit z = true ↔ z ∈ l := by
  unfold orMask
  rw [or_bit]
  simp
/-- a list of as many as the set has: it makes the set just if all lie in it and are different -/
theorem mask_iff {n s : Nat} {l : List Nat} (hs : s < 2 ^ n) (hl : l.length = many n s) (hn : ∀ x ∈ l, x < n) : orMask l = s ↔ (∀ x ∈ l, s.testBit x = true) ∧ l.Nodup := by
  constructor
  · intro h
    have hin : ∀ x ∈ l, s.testBit x = true := by
      intro x hx
      rw [← h]
      exact (orMask_bit l x).mpr hx
    refine ⟨hin, nodup_of_len (bits_nodup n s) ?_ (by rw [bits_len, hl]; exact Nat.le_refl _)⟩
    intro x hx
    have := (mem_bits.mp hx).2
    rw [← h] at this
    exact (orMask_bit l x).mp this
  · rintro ⟨hin, hd⟩
    refine Nat.eq_of_testBit_eq fun z => ?_
    rw [Bool.eq_iff_iff, orMask_bit]
    constructor
    · exact hin z
    · intro hz
      have hb : z ∈ bits n s := mem_bits.mpr ⟨bits_lt hs hz, hz⟩
      refine sub_full hd (fun x hx => mem_bits.mpr ⟨hn x hx, hin x hx⟩) (by rw [bits_len, hl]; exact Nat.le_refl _) z hb
/-- s, s + d, ..: k of them -/
def prog (n o d k : Nat) : List Nat := (List.range k).map fun i => (o + i * d) % n
theorem prog_len (n o d k : Nat) : (prog n o d k).length = k := by
  unfold prog
  rw [List.length_map, List.length_range]
theorem prog_lt {n o d k : Nat} (hn : 0 < n) : ∀ x ∈ prog n o d k, x < n := by
  unfold prog
  intro x hx
  obtain ⟨i, _, rfl⟩ := List.mem_map.mp hx
  exact Nat.mod_lt _ hn
def stepAt (n s d : Nat) : Bool := (List.range n).any fun o => decide (orMask (prog n o d (many n s)) = s)
theorem step_eq {n s : Nat} (hn : 0 < n) (hs : s < 2 ^ n) : Sv63Neutral.stepOf n s = if many n s < 2 then none else ((List.range n).drop 1).find? (stepAt n s) := by
  unfold Sv63Neutral.stepOf
  have e : (fun (d : Nat) => (List.range n).any fun (o : Nat) => let l := (List.range (many n s)).map fun (i : Nat) => (o + i * d) % n
      l.all (fun (x : Nat) => s.testBit x) && decide l.Nodup) = stepAt n s := by
    funext d
    unfold stepAt
    congr 1
    funext o
    rw [Bool.eq_iff_iff, decide_eq_true_eq, mask_iff hs (prog_len ..) (prog_lt hn)]
    show ((prog n o d (many n s)).all (fun x => s.testBit x) && decide (prog n o d (many n s)).Nodup) = true ↔ _
    rw [Bool.and_eq_true, List.all_eq_true, decide_eq_true_eq]
  show (if many n s < 2 then none else ((List.range n).drop 1).find? (fun (d : Nat) => (List.range n).any fun (o : Nat) => let l := (List.range (many n s)).map fun (i : Nat) => (o + i * d) % n
      l.all (fun (x : Nat) => s.testBit x) && decide l.Nodup)) = _
  rw [e]
/-- the least of a search that begins at 1 -/
theorem find_from {p : Nat → Bool} {n k : Nat} (h1 : 1 ≤ k) (hk : k < n) (hp : p k = true) (hl : ∀ j, 1 ≤ j → j < k → p j = false) : ((List.range n).drop 1).find? p = some k := by
  have e : ((List.range n).drop 1) = (List.range (n - 1)).map (· + 1) := by
    cases n with
    | zero => omega
    | succ n => rw [List.range_succ_eq_map]; rfl
  rw [e, List.find?_map, find_range (k := k - 1) (by omega)]
  · simp; omega
  · show p (k - 1 + 1) = true
    have : k - 1 + 1 = k := by omega
    rw [this]
    exact hp
  · intro j hj
    exact hl (j + 1) (by omega) (by omega)
theorem find_from_none {p : Nat → Bool} {n : Nat} (hl : ∀ j, 1 ≤ j → j < n → p j = false) : ((List.range n).drop 1).find? p = none := by
  rw [List.find?_eq_none]
  intro x hx
  have hx' : x ∈ List.range n := List.mem_of_mem_drop hx
  have h0 : 1 ≤ x := by
    have e : ((List.range n).drop 1) = (List.range (n - 1)).map (· + 1) := by
      cases n with
      | zero => rfl
      | succ n => rw [List.range_succ_eq_map]; rfl
    rw [e] at hx
    obtain ⟨i, _, rfl⟩ := List.mem_map.mp hx
    omega
  rw [hl x h0 (List.mem_range.mp hx')]
  exact Bool.noConfusion
/-- none of it is a sum of two of it -/
theorem sums_bit (N A B z : Nat) : (sums N A B).testBit z = true ↔ z < N ∧ ∃ x, x < N ∧ A.testBit x = true ∧ ∃ y, y < N ∧ B.testBit y = true ∧ (x + y) % N = z := by
  unfold sums
  rw [setOf_bit]
  simp only [remainders, has, Bool.and_eq_true, decide_eq_true_eq, List.any_eq_true, List.mem_range, beq_iff_eq]
theorem free_iff {n s : Nat} : Sv63Neutral.isFree n s = true ↔ ∀ x, x < n → s.testBit x = true → ∀ y, y < n → s.testBit y = true → s.testBit ((x + y) % n) = false := by
  unfold Sv63Neutral.isFree
  simp only [List.all_eq_true, List.mem_range, Bool.or_eq_true, Bool.not_eq_true']
  constructor
  · intro h x hx ex y hy ey
    rcases h x hx with q | q
    · rw [ex] at q; exact Bool.noConfusion q
    · rcases q y hy with q | q
      · rw [ey] at q; exact Bool.noConfusion q
      · exact q
  · intro h x hx
    cases ex : s.testBit x with
    | false => exact Or.inl rfl
    | true =>
      refine Or.inr fun y hy => ?_
      cases ey : s.testBit y with
      | false => exact Or.inl rfl
      | true => exact Or.inr (h x hx ex y hy ey)
theorem free_sums {n s : Nat} : Sv63Neutral.isFree n s = true ↔ sums n s s &&& s = 0 := by
  rw [free_iff]
  constructor
  · intro h
    refine Nat.eq_of_testBit_eq fun z => ?_
    rw [Nat.testBit_and, Nat.zero_testBit]
    cases e : (sums n s s).testBit z with
    | false => rfl
    | true =>
      obtain ⟨_, x, hx, ex, y, hy, ey, rfl⟩ := (sums_bit n s s z).mp e
      rw [h x hx ex y hy ey]
      rfl
  · intro h x hx ex y hy ey
    have e : (sums n s s).testBit ((x + y) % n) = true := (sums_bit ..).mpr ⟨Nat.mod_lt _ (by omega), x, hx, ex, y, hy, ey, rfl⟩
    have q : (sums n s s &&& s).testBit ((x + y) % n) = false := by rw [h, Nat.zero_testBit]
    rw [Nat.testBit_and, e, Bool.true_and] at q
    exact q
end RS

namespace RS
open Sv63
/-! Sums at places, place by place -/
def sumTo (r : List Nat) (i m : Nat) : Nat := ((List.range i).map fun j => if m.testBit j = true then r.getD j 0 else 0).sum
theorem sumAt_to (r : List Nat) (m : Nat) : sumAt r m = sumTo r r.length m := rfl
theorem sumTo_succ (r : List Nat) (i m : Nat) : sumTo r (i + 1) m = sumTo r i m + (if m.testBit i = true then r.getD i 0 else 0) := by
  unfold sumTo
  rw [List.range_succ, List.map_append, List.sum_append]
  simp
theorem sumTo_zero (r : List Nat) : ∀ i, sumTo r i 0 = 0
  | 0 => rfl
  | i + 1 => by
    rw [sumTo_succ, sumTo_zero r i, Nat.zero_testBit]
    rfl
theorem sumTo_high {r : List Nat} {i m : Nat} (h : m < 2 ^ i) : ∀ k, sumTo r (i + k) m = sumTo r i m
  | 0 => rfl
  | k + 1 => by
    rw [← Nat.add_assoc, sumTo_succ, sumTo_high h k, bit_high h (by omega)]
    simp
theorem sumTo_congr {r : List Nat} {m m' : Nat} : ∀ {i : Nat}, (∀ j, j < i → m.testBit j = m'.testBit j) → sumTo r i m = sumTo r i m'
  | 0, _ => rfl
  | i + 1, h => by
    rw [sumTo_succ, sumTo_succ, sumTo_congr (fun j hj => h j (by omega)), h i (by omega)]
theorem sumTo_top {r : List Nat} {i m : Nat} (h : m < 2 ^ i) : sumTo r (i + 1) (2 ^ i + m) = sumTo r i m + r.getD i 0 := by
  rw [sumTo_succ, Nat.testBit_two_pow_add_eq, Nat.testBit_lt_two_pow h]
  rw [sumTo_congr (m' := m) (fun j hj => by rw [Nat.testBit_two_pow_add_gt hj])]
  rfl
theorem many_succ (i m : Nat) : many (i + 1) m = many i m + (if m.testBit i = true then 1 else 0) := by
  unfold many remainders
  rw [List.range_succ, List.filter_append, List.length_append]
  congr 1
  unfold has
  rw [List.filter_cons]
  split <;> simp_all
theorem many_zero : ∀ i, many i 0 = 0
  | 0 => rfl
  | i + 1 => by
    rw [many_succ, many_zero i, Nat.zero_testBit]
    rfl
theorem many_high {i m : Nat} (h : m < 2 ^ i) : ∀ k, many (i + k) m = many i m
  | 0 => rfl
  | k + 1 => by
    rw [← Nat.add_assoc, many_succ, many_high h k, bit_high h (by omega)]
    simp
theorem many_congr {m m' : Nat} : ∀ {i : Nat}, (∀ j, j < i → m.testBit j = m'.testBit j) → many i m = many i m'
  | 0, _ => rfl
  | i + 1, h => by
    rw [many_succ, many_succ, many_congr (fun j hj => h j (by omega)), h i (by omega)]
theorem many_top {i m : Nat} (h : m < 2 ^ i) : many (i + 1) (2 ^ i + m) = many i m + 1 := by
  rw [many_succ, Nat.testBit_two_pow_add_eq, Nat.testBit_lt_two_pow h]
  rw [many_congr (m' := m) (fun j hj => by rw [Nat.testBit_two_pow_add_gt hj])]
  rfl
theorem many_le : ∀ i m : Nat, many i m ≤ i
  | 0, _ => Nat.le_refl _
  | i + 1, m => by
    rw [many_succ]
    have := many_le i m
    split <;> omega
theorem many_pos {i m : Nat} (h : m < 2 ^ i) (h0 : 0 < m) : 0 < many i m := by
  induction i with
  | zero => simp at h; omega
  | succ i ih =>
    rw [many_succ]
    by_cases hm : m < 2 ^ i
    · have := ih hm
      omega
    · have e : m.testBit i = true := by
        have q : m = 2 ^ i + (m - 2 ^ i) := by omega
        rw [q, Nat.testBit_two_pow_add_eq, Nat.testBit_lt_two_pow (by rw [Nat.pow_succ] at h; omega)]
        rfl
      rw [if_pos e]
      omega
theorem some_def (n : Nat) (r : List Nat) (j : Bool) : Sv63Neutral.someOf n r j = (List.range (2 ^ r.length)).find? fun m => m != 0 && ((!j || many r.length m == n) && sumAt r m % n == 0) := rfl
end RS

namespace RS
open Sv63
/-! some and just: the least mask for each number of places and each remainder, place by place -/
abbrev Tri := Nat × Nat × Nat
def keyT (t : Tri) : Nat × Nat := (t.1, t.2.1)
structure Least (n : Nat) (r : List Nat) (p : Nat) (t : Tri) : Prop where
  lt : t.2.2 < 2 ^ p
  cnt : many p t.2.2 = t.1
  rem : sumTo r p t.2.2 % n = t.2.1
  min : ∀ m, m < 2 ^ p → many p m = t.1 → sumTo r p m % n = t.2.1 → t.2.2 ≤ m
structure Good (n : Nat) (r : List Nat) (p : Nat) (D : List Tri) : Prop where
  nodup : (D.map keyT).Nodup
  sound : ∀ t ∈ D, Least n r p t
  full : ∀ m, m < 2 ^ p → (many p m, sumTo r p m % n) ∈ D.map keyT
  len : D.length ≤ 2 ^ p
theorem good_zero (n : Nat) (r : List Nat) : Good n r 0 [(0, 0, 0)] := by
  refine ⟨by simp, ?_, ?_, by simp⟩
  · intro t ht
    rw [List.mem_singleton.mp ht]
    exact ⟨by simp, rfl, by simp [sumTo], fun m _ _ _ => Nat.zero_le _⟩
  · intro m hm
    have e : m = 0 := by simp at hm; omega
    subst e
    simp [keyT, sumTo, many, remainders]
/-- within a turn: k of the keys are through -/
structure Mid (n : Nat) (r : List Nat) (p : Nat) (D0 : List Tri) (k : Nat) (D : List Tri) : Prop where
  ext : ∃ X, D = D0 ++ X ∧ X.length ≤ k ∧ ∀ t ∈ X, Least n r (p + 1) t
  nodup : (D.map keyT).Nodup
  done : ∀ t ∈ D0.take k, (t.1 + 1, (t.2.1 + r.getD p 0) % n) ∈ D.map keyT
theorem mid_zero {n : Nat} {r : List Nat} {p : Nat} {D : List Tri} (g : Good n r p D) : Mid n r p D 0 D :=
  ⟨⟨[], by simp, Nat.le_refl _, fun t ht => by cases ht⟩, g.nodup, fun t ht => by simp at ht⟩
theorem take_one {α : Type} {l : List α} {k : Nat} {t x : α} (h : l[k]? = some t) (hx : x ∈ l.take (k + 1)) : x ∈ l.take k ∨ x = t := by
  rw [List.take_add_one, h] at hx
  rcases List.mem_append.mp hx with q | q
  · exact .inl q
  · exact .inr (by simpa using q)
theorem mid_old {n : Nat} {r : List Nat} {p : Nat} {D0 D : List Tri} {k : Nat} {t : Tri} (w : Mid n r p D0 k D) (ht : D0[k]? = some t) (h : (t.1 + 1, (t.2.1 + r.getD p 0) % n) ∈ D.map keyT) : Mid n r p D0 (k + 1) D := by
  obtain ⟨X, e, l, s⟩ := w.ext
  refine ⟨⟨X, e, by omega, s⟩, w.nodup, fun x hx => ?_⟩
  rcases take_one ht hx with q | rfl
  · exact w.done x q
  · exact h
theorem or_add {m p : Nat} (h : m < 2 ^ p) : m ||| 2 ^ p = 2 ^ p + m := by
  have e := Nat.two_pow_add_eq_or_of_lt h 1
  rw [Nat.mul_one] at e
  rw [Nat.or_comm, e]
theorem rem_cancel {n a b x : Nat} (h : (a + x) % n = (b + x) % n) : a % n = b % n := by
  have e : ((a : Int) + (x : Int)) % (n : Int) = ((b : Int) + (x : Int)) % (n : Int) := by
    have := congrArg (fun (z : Nat) => (z : Int)) h
    simpa using this
  have q := (Int.emod_add_cancel_right (x : Int)).mp e
  have q2 : (((a % n : Nat)) : Int) = ((b % n : Nat) : Int) := by simpa using q
  omega
theorem mid_new {n : Nat} {r : List Nat} {p : Nat} {D0 D : List Tri} {k : Nat} {t : Tri} (g : Good n r p D0) (w : Mid n r p D0 k D) (ht : D0[k]? = some t) (h : (t.1 + 1, (t.2.1 + r.getD p 0) % n) ∉ D.map keyT) :
    Mid n r p D0 (k + 1) (D ++ [(t.1 + 1, (t.2.1 + r.getD p 0) % n, t.2.2 ||| 2 ^ p)]) := by
  obtain ⟨X, e, l, s⟩ := w.ext
  have tm : t ∈ D0 := List.mem_of_getElem? ht
  have ts := g.sound t tm
  have hD0 : ∀ q, q ∈ D0.map keyT → q ∈ D.map keyT := by
    intro q hq
    rw [e, List.map_append]
    exact List.mem_append_left _ hq
  refine ⟨⟨X ++ [(t.1 + 1, (t.2.1 + r.getD p 0) % n, t.2.2 ||| 2 ^ p)], by rw [e, List.append_assoc], by simp; omega, fun u hu => ?_⟩, ?_, fun x hx => ?_⟩
  · rcases List.mem_append.mp hu with q | q
    · exact s u q
    · rw [List.mem_singleton.mp q]
      have lt := ts.lt
      refine ⟨?_, ?_, ?_, ?_⟩
      · show t.2.2 ||| 2 ^ p < 2 ^ (p + 1)
        rw [or_add lt, Nat.pow_succ]
        omega
      · show many (p + 1) (t.2.2 ||| 2 ^ p) = t.1 + 1
        rw [or_add lt, many_top lt, ts.cnt]
      · show sumTo r (p + 1) (t.2.2 ||| 2 ^ p) % n = (t.2.1 + r.getD p 0) % n
        rw [or_add lt, sumTo_top lt, ← ts.rem]
        simp
      · intro m hm hc hr
        show t.2.2 ||| 2 ^ p ≤ m
        rw [or_add lt]
        by_cases c : m < 2 ^ p
        · exfalso
          have f := hD0 _ (g.full m c)
          have e1 := many_high c 1
          have e2 := sumTo_high (r := r) c 1
          rw [← e1, ← e2, hc, hr] at f
          exact h f
        · have lt2 : m - 2 ^ p < 2 ^ p := by
            rw [Nat.pow_succ] at hm
            omega
          have em : m = 2 ^ p + (m - 2 ^ p) := by omega
          rw [em, many_top lt2] at hc
          rw [em, sumTo_top lt2] at hr
          have hr2 : (sumTo r p (m - 2 ^ p) + r.getD p 0) % n = (sumTo r p t.2.2 + r.getD p 0) % n := by
            rw [hr, ← ts.rem]
            simp
          have q := ts.min (m - 2 ^ p) lt2 (by simpa using hc) (by rw [rem_cancel hr2]; exact ts.rem)
          omega
  · rw [List.map_append, List.nodup_append]
    refine ⟨w.nodup, by simp, fun a ha b hb => ?_⟩
    rw [List.map_cons, List.map_nil, List.mem_singleton] at hb
    rintro rfl
    rw [hb] at ha
    exact h ha
  · rcases take_one ht hx with q | rfl
    · rw [List.map_append]
      exact List.mem_append_left _ (w.done x q)
    · rw [List.map_append]
      exact List.mem_append_right _ (by simp [keyT])
theorem mid_end {n : Nat} {r : List Nat} {p : Nat} {D0 D : List Tri} (g : Good n r p D0) (w : Mid n r p D0 D0.length D) : Good n r (p + 1) D := by
  obtain ⟨X, e, l, s⟩ := w.ext
  have pp : 2 ^ (p + 1) = 2 ^ p + 2 ^ p := by rw [Nat.pow_succ]; omega
  have gl := g.len
  refine ⟨w.nodup, fun t ht => ?_, fun m hm => ?_, ?_⟩
  · rw [e] at ht
    rcases List.mem_append.mp ht with q | q
    · have ts := g.sound t q
      have lt := ts.lt
      refine ⟨by omega, ?_, ?_, fun m hm hc hr => ?_⟩
      · exact (many_high lt 1).trans ts.cnt
      · rw [sumTo_high (r := r) lt 1]
        exact ts.rem
      · by_cases c : m < 2 ^ p
        · exact ts.min m c ((many_high c 1).symm.trans hc) (by rw [← sumTo_high (r := r) c 1]; exact hr)
        · omega
    · exact s t q
  · by_cases c : m < 2 ^ p
    · rw [many_high c 1, sumTo_high (r := r) c 1, e, List.map_append]
      exact List.mem_append_left _ (g.full m c)
    · have lt2 : m - 2 ^ p < 2 ^ p := by omega
      have em : m = 2 ^ p + (m - 2 ^ p) := by omega
      have f := g.full _ lt2
      obtain ⟨t, tm, te⟩ := List.mem_map.mp f
      have d := w.done t (by rw [List.take_length]; exact tm)
      rw [em, many_top lt2, sumTo_top lt2]
      have e1 : t.1 = many p (m - 2 ^ p) := congrArg Prod.fst te
      have e2 : t.2.1 = sumTo r p (m - 2 ^ p) % n := congrArg Prod.snd te
      rw [e1, e2] at d
      simpa using d
  · rw [e, List.length_append]
    omega
/-- what is found at the end -/
theorem just_some {n : Nat} {r : List Nat} {D : List Tri} {t : Tri} (h1 : 1 ≤ n) (g : Good n r r.length D) (ht : t ∈ D) (hk : keyT t = (n, 0)) : Sv63Neutral.someOf n r true = some t.2.2 := by
  have ts := g.sound t ht
  have e1 : t.1 = n := congrArg Prod.fst hk
  have e2 : t.2.1 = 0 := congrArg Prod.snd hk
  rw [some_def]
  refine find_range ts.lt ?_ (fun j hj => ?_)
  · have c := ts.cnt
    have q := ts.rem
    have nz : t.2.2 ≠ 0 := by
      intro z
      rw [z, many_zero] at c
      omega
    rw [sumAt_to, q, c, e1, e2]
    simp [nz]
  · have lt := ts.lt
    cases hq : (j != 0 && ((!true || many r.length j == n) && sumAt r j % n == 0)) with
    | false => rfl
    | true =>
      exfalso
      simp only [Bool.not_true, Bool.false_or, Bool.and_eq_true, beq_iff_eq] at hq
      have q := ts.min j (by omega) (by rw [hq.2.1, e1]) (by rw [← sumAt_to, hq.2.2, e2])
      omega
theorem just_none {n : Nat} {r : List Nat} {D : List Tri} (g : Good n r r.length D) (hk : (n, 0) ∉ D.map keyT) : Sv63Neutral.someOf n r true = none := by
  rw [some_def]
  refine find_range_none fun j hj => ?_
  cases hq : (j != 0 && ((!true || many r.length j == n) && sumAt r j % n == 0)) with
  | false => rfl
  | true =>
    exfalso
    simp only [Bool.not_true, Bool.false_or, Bool.and_eq_true, beq_iff_eq] at hq
    have f := g.full j hj
    rw [← sumAt_to, hq.2.1, hq.2.2] at f
    exact hk f
def isIn (t : Tri) : Bool := decide (0 < t.1) && t.2.1 == 0
theorem some_none {n : Nat} {r : List Nat} {D : List Tri} (g : Good n r r.length D) (hk : ∀ t ∈ D, isIn t = false) : Sv63Neutral.someOf n r false = none := by
  rw [some_def]
  refine find_range_none fun j hj => ?_
  cases hq : (j != 0 && ((!false || many r.length j == n) && sumAt r j % n == 0)) with
  | false => rfl
  | true =>
    exfalso
    simp only [Bool.not_false, Bool.true_or, Bool.true_and, Bool.and_eq_true, beq_iff_eq, bne_iff_ne, ne_eq] at hq
    obtain ⟨t, tm, te⟩ := List.mem_map.mp (g.full j hj)
    have e1 : t.1 = many r.length j := congrArg Prod.fst te
    have e2 : t.2.1 = sumTo r r.length j % n := congrArg Prod.snd te
    rw [← sumAt_to, hq.2] at e2
    have p := many_pos hj (by omega)
    have q := hk t tm
    unfold isIn at q
    rw [e1, e2] at q
    simp at q
    omega
theorem some_some {n : Nat} {r : List Nat} {D : List Tri} {t : Tri} (g : Good n r r.length D) (ht : t ∈ D) (hi : isIn t = true) (hm : ∀ u ∈ D, isIn u = true → t.2.2 ≤ u.2.2) : Sv63Neutral.someOf n r false = some t.2.2 := by
  have ts := g.sound t ht
  unfold isIn at hi
  simp only [Bool.and_eq_true, decide_eq_true_eq, beq_iff_eq] at hi
  rw [some_def]
  refine find_range ts.lt ?_ (fun j hj => ?_)
  · have c := ts.cnt
    have q := ts.rem
    have nz : t.2.2 ≠ 0 := by
      intro z
      rw [z, many_zero] at c
      omega
    rw [sumAt_to, q, hi.2]
    simp [nz]
  · have lt := ts.lt
    cases hq : (j != 0 && ((!false || many r.length j == n) && sumAt r j % n == 0)) with
    | false => rfl
    | true =>
      exfalso
      simp only [Bool.not_false, Bool.true_or, Bool.true_and, Bool.and_eq_true, beq_iff_eq, bne_iff_ne, ne_eq] at hq
      obtain ⟨u, um, ue⟩ := List.mem_map.mp (g.full j (by omega))
      have e1 : u.1 = many r.length j := congrArg Prod.fst ue
      have e2 : u.2.1 = sumTo r r.length j % n := congrArg Prod.snd ue
      have p := many_pos (i := r.length) (m := j) (by omega) (by omega)
      have us := g.sound u um
      have q := hm u um (by
        unfold isIn
        rw [e1, e2, ← sumAt_to, hq.2]
        simp [p])
      have q2 := us.min j (by omega) e1.symm e2.symm
      omega
end RS

open PySem PySem.W
namespace RS
theorem and_nat (x y : Nat) : Builtin.bitAnd (x : Int) (y : Int) = ((x &&& y : Nat) : Int) := by
  rw [PyProof.Rows.bitAnd_pp (Int.natCast_nonneg x) (Int.natCast_nonneg y), Int.toNat_natCast, Int.toNat_natCast]
theorem or_add_and : ∀ (k x y : Nat), x < 2 ^ k → x + y = (x ||| y) + (x &&& y)
  | 0, x, y, h => by
    have : x = 0 := by omega
    subst this
    simp
  | k + 1, x, y, h => by
    have ih := or_add_and k (x / 2) (y / 2) (by rw [Nat.pow_succ] at h; omega)
    rw [← Nat.or_div_two, ← Nat.and_div_two] at ih
    have o := @Nat.or_mod_two_eq_one x y
    have a := @Nat.and_mod_two_eq_one x y
    omega
theorem or_nat (x y : Nat) : Builtin.bitOr (x : Int) (y : Int) = ((x ||| y : Nat) : Int) := by
  rw [PyProof.Rows.bitOr_and, and_nat]
  have h := or_add_and x x y Nat.lt_two_pow_self
  omega
theorem pow_nat (k : Nat) : (2 : Int) ^ k = ((2 ^ k : Nat) : Int) := (kbt_cast k).symm
theorem fdiv_nat (x k : Nat) : (x : Int).fdiv (2 ^ k) = ((x / 2 ^ k : Nat) : Int) := by
  rw [pow_nat, Int.fdiv_eq_ediv_of_nonneg _ (Int.natCast_nonneg _), Int.natCast_ediv]
theorem and_one (x : Nat) : Builtin.bitAnd (x : Int) 1 = ((x % 2 : Nat) : Int) := by
  have h := and_nat x 1
  rw [Nat.and_one_is_mod] at h
  exact h
theorem full_nat (N : Nat) : (1 : Int) * 2 ^ N - 1 = ((2 ^ N - 1 : Nat) : Int) := by
  have := Nat.two_pow_pos N
  rw [Int.one_mul, pow_nat]
  omega
theorem mul_nat (x k : Nat) : (x : Int) * 2 ^ k = ((x * 2 ^ k : Nat) : Int) := by
  rw [pow_nat, Int.natCast_mul]
def movedI (n a h : Int) : Int := Builtin.bitAnd (Builtin.bitOr (a * 2 ^ h.toNat) (a.fdiv (2 ^ (n - h).toNat))) (1 * 2 ^ n.toNat - 1)
theorem movedI_nat (N A h : Nat) : movedI (N : Int) (A : Int) (h : Int) = ((movedN N A h : Nat) : Int) := by
  unfold movedI movedN
  have e : ((N : Int) - (h : Int)).toNat = N - h := by omega
  rw [e, Int.toNat_natCast, Int.toNat_natCast, mul_nat, fdiv_nat, full_nat, or_nat, and_nat]
def addedI (n a b : Int) : Int := (rangeKs 0 (n - 0).toNat).foldl (fun a' k' => if Builtin.bitAnd (b.fdiv (2 ^ k'.toNat)) 1 = 1 then Builtin.bitOr a' (movedI n a k') else a') 0
theorem range_nat (N : Nat) : rangeKs 0 ((N : Int) - 0).toNat = (List.range N).map fun (i : Nat) => (i : Int) := by
  unfold rangeKs
  have e : ((N : Int) - 0).toNat = N := by omega
  rw [e]
  refine List.map_congr_left fun i _ => ?_
  omega
theorem bit_nat (B h : Nat) : (Builtin.bitAnd ((B : Int).fdiv (2 ^ (h : Int).toNat)) 1 = 1) ↔ B.testBit h = true := by
  rw [Int.toNat_natCast, fdiv_nat, and_one, Nat.testBit_eq_decide_div_mod_eq, decide_eq_true_eq]
  omega
theorem addedI_nat (N A B : Nat) : addedI (N : Int) (A : Int) (B : Int) = ((addedN N A B : Nat) : Int) := by
  unfold addedI addedN
  rw [range_nat, List.foldl_map]
  have key : ∀ (l : List Nat) (t : Nat), l.foldl (fun (a' : Int) (k' : Nat) => if Builtin.bitAnd ((B : Int).fdiv (2 ^ (k' : Int).toNat)) 1 = 1 then Builtin.bitOr a' (movedI N A k') else a') (t : Int) = ((l.foldl (fun t h => if B.testBit h = true then t ||| movedN N A h else t) t : Nat) : Int) := by
    intro l
    induction l with
    | nil => intro t; rfl
    | cons x r ih =>
      intro t
      rw [List.foldl_cons, List.foldl_cons]
      by_cases h : B.testBit x = true
      · rw [if_pos ((bit_nat B x).mpr h), if_pos h, movedI_nat, or_nat, ih]
      · rw [if_neg (fun q => h ((bit_nat B x).mp q)), if_neg h, ih]
  exact key (List.range N) 0
def manyI (n a : Int) : Int := ((rangeKs 0 (n - 0).toNat).map fun k' => Builtin.bitAnd (a.fdiv (2 ^ k'.toNat)) 1).sum
theorem sum_nat (f : Nat → Nat) : ∀ l : List Nat, (l.map fun i => ((f i : Nat) : Int)).sum = (((l.map f).sum : Nat) : Int)
  | [] => rfl
  | x :: r => by
    rw [List.map_cons, List.sum_cons, List.map_cons, List.sum_cons, sum_nat f r, Int.natCast_add]
theorem manyI_nat (N A : Nat) : manyI (N : Int) (A : Int) = ((Sv63.many N A : Nat) : Int) := by
  unfold manyI
  rw [range_nat, List.map_map, ← many_sum, ← sum_nat]
  congr 1
  refine List.map_congr_left fun i _ => ?_
  show Builtin.bitAnd ((A : Int).fdiv (2 ^ (i : Int).toNat)) 1 = _
  rw [Int.toNat_natCast, fdiv_nat, and_one]
/-- n and a set as the program looks at them -/
theorem wrong_nat {n a : Int} (h1 : 1 ≤ n) (ha : 0 ≤ a) : a.fdiv (2 ^ n.toNat) = 0 ↔ a.toNat < 2 ^ n.toNat := by
  obtain ⟨A, rfl⟩ := Int.eq_ofNat_of_zero_le ha
  rw [fdiv_nat, Int.toNat_natCast]
  have p := Nat.two_pow_pos n.toNat
  constructor
  · intro h
    have h : A / 2 ^ n.toNat = 0 := by omega
    exact Nat.lt_of_div_eq_zero p h
  · intro h
    rw [Nat.div_eq_of_lt h]
    rfl
theorem good_no {n : Int} {a : Nat} (h : n < 1 ∨ 64 < n) : Sv63.good n a = false := by
  unfold Sv63.good Sv63.within
  rcases h with h | h
  · have : decide (1 ≤ n) = false := by simp; omega
    rw [this]; simp
  · have : decide (n ≤ 64) = false := by simp; omega
    rw [this]; simp
theorem good_big {n a : Int} (h1 : 1 ≤ n) (ha : 0 ≤ a) (h : ¬ a.fdiv (2 ^ n.toNat) = 0) : Sv63.good n a.toNat = false := by
  unfold Sv63.good
  have : decide (a.toNat < 2 ^ n.toNat) = false := by
    simp only [decide_eq_false_iff_not]
    exact fun q => h ((wrong_nat h1 ha).mpr q)
  rw [this, Bool.and_false]
theorem good_yes {n a : Int} (h1 : 1 ≤ n) (h64 : n ≤ 64) (ha : 0 ≤ a) (h : a.fdiv (2 ^ n.toNat) = 0) : Sv63.good n a.toNat = true := by
  unfold Sv63.good Sv63.within
  have := (wrong_nat h1 ha).mp h
  simp [this, h1, h64]
end RS

open PySem PySem.W
namespace RS
theorem dec_cons {c : Codec} {cs : List Codec} {d : WData} {ds : List WData} (h : (Codec.decAll (c :: cs) (d :: ds)).isSome = true) :
    (Codec.decAll [c] [d]).isSome = true ∧ (Codec.decAll cs ds).isSome = true := by
  have e : Codec.decAll (c :: cs) (d :: ds) = Codec.both Prod.mk (c.dec d) (Codec.decAll cs ds) := rfl
  have e1 : Codec.decAll [c] [d] = Codec.both Prod.mk (c.dec d) (some ()) := rfl
  rw [e] at h
  rw [e1]
  cases h1 : c.dec d with
  | none =>
    rw [h1] at h
    cases h
  | some a =>
    cases h2 : Codec.decAll cs ds with
    | none =>
      rw [h1, h2] at h
      cases h
    | some r => exact ⟨rfl, rfl⟩
theorem dec_join {c : Codec} {cs : List Codec} {d : WData} {ds : List WData} {a : c.denote} {r : Codec.denoteAll cs} (h1 : Codec.decAll [c] [d] = some (a, ())) (h2 : Codec.decAll cs ds = some r) :
    Codec.decAll (c :: cs) (d :: ds) = some (a, r) := by
  have e : Codec.decAll (c :: cs) (d :: ds) = Codec.both Prod.mk (c.dec d) (Codec.decAll cs ds) := rfl
  have e1 : Codec.decAll [c] [d] = Codec.both Prod.mk (c.dec d) (some ()) := rfl
  rw [e1] at h1
  rw [e, h2]
  cases h3 : c.dec d with
  | none =>
    rw [h3] at h1
    cases h1
  | some b =>
    rw [h3] at h1
    cases h1
    rfl
theorem dec_int {lo hi k : Int} (h : (Codec.decAll [.int lo hi] [WData.int k]).isSome = true) : Codec.decAll [.int lo hi] [WData.int k] = some (k, ()) ∧ lo ≤ k ∧ k ≤ hi := by
  have e : Codec.decAll [.int lo hi] [WData.int k] = Codec.both Prod.mk (if Codec.inInt lo hi k = true then some k else none) (some ()) := rfl
  rw [e] at h ⊢
  cases h1 : Codec.inInt lo hi k with
  | false =>
    rw [h1] at h
    cases h
  | true =>
    unfold Codec.inInt at h1
    simp only [Bool.and_eq_true, decide_eq_true_eq] at h1
    exact ⟨rfl, h1.1, h1.2⟩
theorem same_one {x : Int} {k : List Int} (h : [x] = k) : same (ofPy (PyData.list [PyData.int x])) (WData.list (k.map WData.int)) = true := by
  subst h
  exact same_self _
theorem same_two {x y : Int} {k : List Int} (h : [x, y] = k) : same (ofPy (PyData.list [PyData.int x, PyData.int y])) (WData.list (k.map WData.int)) = true := by
  subst h
  exact same_self _
end RS

open PySem PySem.W PySem.Calls PyProof.Rows PyProof.V PySem.Spec
namespace RS
/-! A for over a range whose own name is a cell, and which binds names anew to lists that a turn makes -/
def LoopC (prog : Program) (w : World) (A : Around) (env : Env) (x : Str) (px : Pos) (body : List Stmt) (Q : Flow → Shared → Prop) (E : Value → Shared → Prop) (it : Value) (s2 : Shared) : Prop :=
  codeAny (model prog w) A (.forLoop (.Name x px) it body [] env) (fun r s' => match r with | .ok f => Q f s' | .error e => cameBackBy (model prog w) A env E e s') s2
section
variable {prog : Program} {w : World} {A : Around} {E : Value → Shared → Prop} {s : Shared} {env : Env} {h0 : Heap} {x : Str} {px pos : Pos} {iter : PySem.Expr} {body : List Stmt} {Q : Flow → Shared → Prop}
theorem for_cell (h : wpAny (model prog w) A (eval iter env) (fun xv s1 => wpAny (model prog w) A (pyIter xv) (fun it s2 => LoopC prog w A env x px body Q E it s2) E s1) E s)
    (hs : ∀ x, foldedSetIterable iter env x = pure x := by intro _; rfl) : wpAny (model prog w) A (exec (.For (.Name x px) iter body [] pos) env) Q E s := wpAny_For h hs

/-- where a turn ends: the state again, and what the loop itself keeps (its iterator, its own cell) still there -/
def NewEnd {σ : Type} (h0 : Heap) (L : Addr) (Led : σ → List (Addr × Obj)) (ps : σ → List (Str × Value)) (Facts : σ → Prop) (m0 : Str → Option Value) (P : σ → Prop) (own : List (Addr × Obj)) (s1 s2 : Shared) : Prop :=
  ∃ (c : σ) (h' : Heap) (tk : Nat) (m' : Str → Option Value) (news' : List (Addr × Obj)), s2 = { s1 with heap := h', toks := tk } ∧ Fr h0 L h' m' ∧ News h0 L h' news' ∧ (∀ p ∈ Led c, p ∈ news') ∧ (∀ p ∈ own, p ∈ news') ∧ Facts c ∧
    (∀ p ∈ ps c, m' p.1 = some p.2) ∧ (∀ z, (∀ p ∈ ps c, z ≠ p.1) → m' z = m0 z) ∧ P c
def NewPost {σ : Type} (h0 : Heap) (L : Addr) (Led : σ → List (Addr × Obj)) (ps : σ → List (Str × Value)) (Facts : σ → Prop) (m0 : Str → Option Value) (P : σ → Prop) (own : List (Addr × Obj)) (s1 : Shared) (Q : Flow → Shared → Prop) (f : Flow) (s2 : Shared) : Prop :=
  match f with
  | .ret v => Q (.ret v) s2
  | .brk => Q .next s2
  | _ => NewEnd h0 L Led ps Facts m0 P own s1 s2
theorem new_end {σ : Type} {L : Addr} {Led : σ → List (Addr × Obj)} {ps : σ → List (Str × Value)} {Facts : σ → Prop} {m0 m' : Str → Option Value} {P : σ → Prop} {own news' : List (Addr × Obj)} {s1 : Shared} {h' : Heap} {tk : Nat} (c : σ)
    (F : Fr h0 L h' m') (hk : ∀ p ∈ ps c, m' p.1 = some p.2) (N : News h0 L h' news') (hn : ∀ p ∈ Led c, p ∈ news') (ho : ∀ p ∈ own, p ∈ news') (hf : Facts c) (hr : ∀ z, (∀ p ∈ ps c, z ≠ p.1) → m' z = m0 z) (hp : P c) :
    NewEnd h0 L Led ps Facts m0 P own s1 { s1 with heap := h', toks := tk } := ⟨c, h', tk, m', news', rfl, F, N, hn, ho, hf, hk, hr, hp⟩
theorem fr_ps {L : Addr} {h : Heap} {ps : List (Str × Value)} {m0 m1 : Str → Option Value} (h1 : ∀ p ∈ ps, m1 p.1 = some p.2) (h2 : ∀ z, (∀ p ∈ ps, z ≠ p.1) → m1 z = m0 z)
    (F : Fr h0 L h m1) : Fr h0 L h (kstB m0 ps) := by
  have em : kstB m0 ps = m1 := by
    funext y
    exact kstB_eq h1 fun hn => (h2 y hn).symm
  rw [em]
  exact F
/-- what no list and no cell is -/
def Kept (o : Obj) : Prop := ∀ f, o.data ≠ .fields f
theorem fr_but {L b : Addr} {h h' : Heap} {m : Str → Option Value} (F : Fr h0 L h m) (hs : Heap.ExtBut b h h') (hb : h0.get? b = none) (hL : L ≠ b) : Fr h0 L h' m :=
  ⟨F.ns.extBut hs hL, fun a o e => hs a o (fun q => by rw [q, hb] at e; cases e) (F.keep a o e), F.above⟩
theorem news_but {L b : Addr} {h h' : Heap} {news : List (Addr × Obj)} (N : News h0 L h news) (hs : Heap.ExtBut b h h') (hb : ∀ p ∈ news, p.1 ≠ b) : News h0 L h' news :=
  fun p hp => ⟨hs _ _ (hb p hp) (N p hp).1, (N p hp).2⟩
theorem ne_iter {h : Heap} {it : Addr} {a b c : Int} (hit : IsRangeIter h it a b c) {q : Addr} {o : Obj} (hq : h.get? q = some o) (hk : Kept o) : q ≠ it := by
  intro e
  rw [e] at hq
  have e2 : some o = some _ := hq.symm.trans hit
  have e3 := Option.some.inj e2
  exact hk _ (by rw [e3])
theorem cell_range {σ : Type} {r cx : Addr} {ox : Obj} {v0 : Option Value} {a0 b0 : Int} {t0 u0 w0 : Tok} {n : Nat} {m0 : Str → Option Value} (Led : σ → List (Addr × Obj)) (ps : σ → List (Str × Value)) (Facts : σ → Prop) (P : List Int → σ → Prop) (c0 : σ)
    (hh : A.handled = none) (hr : IsRange s.heap r a0 b0 1 t0 u0 w0) (hsmall : Builtin.Range.small a0 b0 1 = true) (hn : Builtin.Range.rangeSize a0 b0 1 = (n : Int))
    (hk : env.scope.kind = .function) (hx : env.kindOf x = some .cell) (hc : env.cells.lookup x = some cx)
    (F : Fr h0 env.locals s.heap m0) (hps : ∀ p ∈ ps c0, m0 p.1 = some p.2) (N : News h0 env.locals s.heap ((cx, ox) :: Led c0)) (hox : ox.data = .cell v0) (hf : Facts c0) (hp : P [] c0)
    (hLed : ∀ c, Facts c → ∀ p ∈ Led c, Kept p.2 ∧ (p.1 ≠ cx ∨ ∀ v, p.2.data ≠ .cell v))
    (turn : ∀ (c : σ) (pre : List Int) (k : Int) t h tk o own, k = a0 + (pre.length : Int) → pre.length < n → Facts c → P pre c → o.data = .cell (some (.int k t)) →
      Fr h0 env.locals h (kstB m0 (ps c)) → News h0 env.locals h (Led c ++ (cx, o) :: own) →
      wpAny (model prog w) A (execs body env) (NewPost h0 env.locals Led ps Facts m0 (P (pre ++ [k])) ((cx, o) :: own) { s with heap := h, toks := tk } Q) E { s with heap := h, toks := tk })
    (done : ∀ (c : σ) h tk, Facts c → P (rangeKs a0 n) c → Fr h0 env.locals h (kstB m0 (ps c)) → News h0 env.locals h (Led c) → Q .next { s with heap := h, toks := tk })
    (hE : PassesOwn (model prog w) A env E := by passes_own) :
    wpAny (model prog w) A (pyIter (.ref r)) (fun it s2 => LoopC prog w A env x px body Q E it s2) E s := by
  apply wpAny_pyIter_range hr hsmall
  generalize hit : s.heap.objs.size = it
  have hnew : h0.get? it = none := by rw [← hit]; exact next_is_new F
  have hL : env.locals ≠ it := by rw [← hit]; exact Nat.ne_of_lt F.ns.lt
  have hcxL : cx ≠ env.locals := (N (cx, ox) (.head _)).2.1
  have hcx0 : h0.get? cx = none := (N (cx, ox) (.head _)).2.2
  unfold LoopC
  refine codeAny_forLoop
    (fun j s' => ∃ h' tk m' c o v i, s' = { s with heap := h', toks := tk } ∧ IsRangeIter h' it (a0 + (i : Nat) * 1) ((n : Int) - (i : Nat)) 1 ∧ Fr h0 env.locals h' m' ∧ News h0 env.locals h' ((cx, o) :: Led c) ∧ o.data = .cell v ∧
      (∀ p ∈ ps c, m' p.1 = some p.2) ∧ (∀ z, (∀ p ∈ ps c, z ≠ p.1) → m' z = m0 z) ∧ Facts c ∧ P ((rangeKs a0 n).take i) c ∧ i ≤ n ∧ j = n + 1 - i) ?_ (n + 1) ?_
  · rintro j s' ⟨h', tk, m', c, o, v, i, rfl, hst, F', N', ho, h1, h2, hf', hp', hi, rfl⟩
    have kc : Kept o := by intro f e; rw [ho] at e; cases e
    have hne : ∀ p ∈ (cx, o) :: Led c, p.1 ≠ it := by
      intro p hm
      rcases List.mem_cons.mp hm with rfl | hm'
      · exact ne_iter hst (N' _ (.head _)).1 kc
      · exact ne_iter hst (N' p hm).1 (hLed c hf' p hm').1
    have hci : cx ≠ it := hne (cx, o) (.head _)
    by_cases hlt : i < n
    · refine wpAny_pyNext_range_item hst (by omega) fun h1' hit1 hs1 => ?_
      have F1 := fr_but F' hs1.extBut hnew hL
      have N1 := news_but N' hs1.extBut hne
      refine wpAny_assign_Name (wpAny_storeName_cell hk hx hc ⟨o, (N1 (cx, o) (.head _)).1, ho⟩ fun h2' hc2 hs2 => ?_)
      obtain ⟨o2, hg2, hd2⟩ := hc2
      have F2 := fr_but F1 hs2.extBut hcx0 (Ne.symm hcxL)
      have NL : News h0 env.locals h1' (Led c) := fun p hm => N1 p (.tail _ hm)
      have hLc : ∀ p ∈ Led c, p.1 ≠ cx := by
        intro p hm e
        rcases (hLed c hf' p hm).2 with q | q
        · exact q e
        · have g1 := (NL p hm).1
          rw [e, (N1 (cx, o) (.head _)).1] at g1
          exact q v (by rw [← Option.some.inj g1]; exact ho)
      have N2 := news_but NL hs2.extBut hLc
      have hit2 : IsRangeIter h2' it (a0 + (i : Nat) * 1 + 1) ((n : Int) - (i : Nat) - 1) 1 := (hs2.2 it (Ne.symm hci)).trans hit1
      have hlen : ((rangeKs a0 n).take i).length = i := by rw [List.length_take, rangeKs_length]; omega
      have e1 : a0 + (i : Int) * 1 = a0 + (i : Int) := by omega
      rw [e1] at hd2
      have hkk : (rangeKs a0 n)[i]? = some (a0 + (i : Int)) := by simp [rangeKs, hlt]
      have hs : (rangeKs a0 n).take (i + 1) = (rangeKs a0 n).take i ++ [a0 + (i : Int)] := by simp [List.take_add_one, hkk]
      obtain ⟨io, gi, ei⟩ : ∃ io : Obj, h2'.get? it = some io ∧ ∀ h : Heap, h.get? it = some io → IsRangeIter h it (a0 + (i : Nat) * 1 + 1) ((n : Int) - (i : Nat) - 1) 1 := ⟨_, hit2, fun _ e => e⟩
      have NT : News h0 env.locals h2' (Led c ++ (cx, o2) :: [(it, io)]) := by
        intro p hm
        rcases List.mem_append.mp hm with q | q
        · exact N2 p q
        · rcases List.mem_cons.mp q with rfl | q
          · exact ⟨hg2, hcxL, hcx0⟩
          · rw [List.mem_singleton.mp q]
            exact ⟨gi, Ne.symm hL, hnew⟩
      refine wpAny_passesOwn hE (wpAny_mono (turn c _ _ tk h2' (tk + 1) o2 [(it, io)] (by rw [hlen]) (by rw [hlen]; exact hlt) hf' hp' hd2 (fr_ps h1 h2 F2) NT) (fun f s3 h3 => ?_) fun _ _ e => e)
      have fin : NewEnd h0 env.locals Led ps Facts m0 (P ((rangeKs a0 n).take i ++ [a0 + (i : Int)])) ((cx, o2) :: [(it, io)]) { s with heap := h2', toks := tk + 1 } s3 → ∃ j, j < n + 1 - i ∧ ∃ h' tk m' c o v i, s3 = { s with heap := h', toks := tk } ∧ IsRangeIter h' it (a0 + (i : Nat) * 1) ((n : Int) - (i : Nat)) 1 ∧ Fr h0 env.locals h' m' ∧ News h0 env.locals h' ((cx, o) :: Led c) ∧ o.data = .cell v ∧
          (∀ p ∈ ps c, m' p.1 = some p.2) ∧ (∀ z, (∀ p ∈ ps c, z ≠ p.1) → m' z = m0 z) ∧ Facts c ∧ P ((rangeKs a0 n).take i) c ∧ i ≤ n ∧ j = n + 1 - i := by
        rintro ⟨c3, h3', tk3, m3, news3, rfl, F3, N3, hn3, ho3, hf3, hk3, hr3, hp3⟩
        refine ⟨n + 1 - (i + 1), by omega, h3', tk3, m3, c3, o2, _, i + 1, rfl, ?_, F3, ?_, hd2, hk3, hr3, hf3, by rw [hs]; exact hp3, hlt, rfl⟩
        · have g := ei _ (N3 _ (ho3 (it, io) (.tail _ (.head _)))).1
          have e2 : a0 + ((i + 1 : Nat) : Int) * 1 = a0 + (i : Int) * 1 + 1 := by omega
          have e3 : (n : Int) - ((i + 1 : Nat) : Int) = (n : Int) - (i : Int) - 1 := by omega
          rw [e2, e3]
          exact g
        · intro p hm
          rcases List.mem_cons.mp hm with rfl | hm
          · exact N3 _ (ho3 _ (.head _))
          · exact N3 _ (hn3 p hm)
      cases f with
      | ret v => exact h3
      | brk => exact h3
      | next => exact fin h3
      | cont => exact fin h3
    · obtain rfl : i = n := by omega
      refine wpAny_pyNext_range_end hh hst (by omega) fun h1' hs1 => wpAny_execs_nil ?_
      have F1 := fr_but F' hs1 hnew hL
      have N1 := news_but N' hs1 hne
      have hl : (rangeKs a0 i).take i = rangeKs a0 i := List.take_of_length_le (Nat.le_of_eq (rangeKs_length _ _))
      rw [hl] at hp'
      exact done c h1' tk hf' hp' (fr_ps h1 h2 F1) (fun p hm => N1 p (.tail _ hm))
  · refine ⟨_, _, m0, c0, ox, v0, 0, rfl, ?_, F.push _, ?_, hox, hps, fun _ _ => rfl, hf, by simpa using hp, Nat.zero_le _, rfl⟩
    · rw [← hit, hn]
      simpa using Heap.get?_push_size _ rfl
    · exact fun p hm => ⟨Heap.get?_push_of_some _ (N p hm).1, (N p hm).2⟩
/-- the same where the loop's own name is a local, over a list of ints that the call has made -/
def ListEnd {σ : Type} (h0 : Heap) (L : Addr) (Led : σ → List (Addr × Obj)) (ps : σ → List (Str × Value)) (Facts : σ → Prop) (x : Str) (stored : List Str) (m0 : Str → Option Value) (P : σ → Prop) (own : List (Addr × Obj)) (s1 s2 : Shared) : Prop :=
  ∃ (c : σ) (h' : Heap) (tk : Nat) (m' : Str → Option Value) (news' : List (Addr × Obj)), s2 = { s1 with heap := h', toks := tk } ∧ Fr h0 L h' m' ∧ News h0 L h' news' ∧ (∀ p ∈ Led c, p ∈ news') ∧ (∀ p ∈ own, p ∈ news') ∧ Facts c ∧
    (∀ p ∈ ps c, m' p.1 = some p.2) ∧ (∀ z, z ≠ x → (∀ p ∈ ps c, z ≠ p.1) → stored.contains z = false → m' z = m0 z) ∧ P c
def ListPost {σ : Type} (h0 : Heap) (L : Addr) (Led : σ → List (Addr × Obj)) (ps : σ → List (Str × Value)) (Facts : σ → Prop) (x : Str) (stored : List Str) (m0 : Str → Option Value) (P : σ → Prop) (own : List (Addr × Obj)) (s1 : Shared) (Q : Flow → Shared → Prop) (f : Flow) (s2 : Shared) : Prop :=
  match f with
  | .ret v => Q (.ret v) s2
  | .brk => Q .next s2
  | _ => ListEnd h0 L Led ps Facts x stored m0 P own s1 s2
theorem list_end {σ : Type} {L : Addr} {Led : σ → List (Addr × Obj)} {ps : σ → List (Str × Value)} {Facts : σ → Prop} {stored : List Str} {m0 m' : Str → Option Value} {P : σ → Prop} {own news' : List (Addr × Obj)} {s1 : Shared} {h' : Heap} {tk : Nat} (c : σ)
    (F : Fr h0 L h' m') (hk : ∀ p ∈ ps c, m' p.1 = some p.2) (N : News h0 L h' news') (hn : ∀ p ∈ Led c, p ∈ news') (ho : ∀ p ∈ own, p ∈ news') (hf : Facts c) (hr : ∀ z, z ≠ x → (∀ p ∈ ps c, z ≠ p.1) → stored.contains z = false → m' z = m0 z) (hp : P c) :
    ListEnd h0 L Led ps Facts x stored m0 P own s1 { s1 with heap := h', toks := tk } := ⟨c, h', tk, m', news', rfl, F, N, hn, ho, hf, hk, hr, hp⟩
theorem item_at {vs : List Value} {ns : List Int} {i : Nat} {v : Value} (hi : IntsAre vs ns) (h : i < ns.length) (hv : vs.toArray[i]? = some v) : ∃ t, v = .int ns[i] t := by
  obtain ⟨t, q⟩ := hi.get i ns[i] (List.getElem?_eq_getElem h)
  rw [List.getElem?_toArray, q] at hv
  exact ⟨t, (Option.some.inj hv).symm⟩
theorem take_split (l : List Int) {i : Nat} (h : i < l.length) : l.take (i + 1) = l.take i ++ [l[i]] ∧ l = l.take i ++ l[i] :: l.drop (i + 1) :=
  ⟨List.take_succ_eq_append_getElem h, by rw [← List.drop_eq_getElem_cons h, List.take_append_drop]⟩
theorem new_list {σ : Type} {l : Addr} {ol : Obj} {vs : List Value} {ns : List Int} {m0 : Str → Option Value} (Led : σ → List (Addr × Obj)) (ps : σ → List (Str × Value)) (Facts : σ → Prop) (stored : List Str) (P : List Int → σ → Prop) (c0 : σ)
    (hh : A.handled = none) (hl : s.heap.IsList l vs.toArray) (hi : IntsAre vs ns) (F : Fr h0 env.locals s.heap m0) (hps : ∀ p ∈ ps c0, m0 p.1 = some p.2) (N : News h0 env.locals s.heap ((l, ol) :: Led c0)) (hf : Facts c0) (hp : P [] c0)
    (hLed : ∀ c, Facts c → ∀ p ∈ Led c, Kept p.2)
    (turn : ∀ (c : σ) pre post n t (u : Str → Option Value) h tk own, ns = pre ++ n :: post → n ∈ ns → Facts c → P pre c →
      Fr h0 env.locals h (fun y => if y = x then some (.int n t) else kstB (fun z => if stored.contains z then u z else m0 z) (ps c) y) → News h0 env.locals h (Led c ++ own) →
      wpAny (model prog w) A (execs body env) (ListPost h0 env.locals Led ps Facts x stored m0 (P (pre ++ [n])) own { s with heap := h, toks := tk } Q) E { s with heap := h, toks := tk })
    (done : ∀ (c : σ) (u : Str → Option Value) h tk, Facts c → P ns c → Fr h0 env.locals h (fun y => if y = x then u y else kstB (fun z => if stored.contains z then u z else m0 z) (ps c) y) → News h0 env.locals h (Led c) → Q .next { s with heap := h, toks := tk }) :
    wpAny (model prog w) A (pyIter (.ref l)) (fun it s2 => LoopAtV prog w A h0 env x body Q E it s2) E s := by
  have hlL : l ≠ env.locals := (N (l, ol) (.head _)).2.1
  have hne : l ≠ s.heap.objs.size := by
    obtain ⟨o, ho, _⟩ := id hl
    exact Nat.ne_of_lt (Heap.lt_size ho)
  apply wpAny_pyIter_list hl
  have sz : vs.toArray.size = ns.length := (List.size_toArray ..).trans hi.length
  have walk := sz ▸ Walks.list (prog := prog) (w := w) hh s.heap.objs.size l hne vs.toArray
  refine ⟨_, _, _, ns.length, _, _, m0, Led c0, (fun i m nx => KstS Led ps Facts x stored m0 P (ns.take i) m nx), rfl, walk, ?_, ?_, ?_, ⟨⟨_, Heap.get?_push_size _ rfl, rfl, rfl⟩, hl.at fun o e => Heap.get?_push_of_some _ e⟩, F.push _, (fun p hm => ⟨Heap.get?_push_of_some _ (N p (.tail _ hm)).1, (N p (.tail _ hm)).2⟩), ⟨c0, rfl, hf, hps, fun _ _ _ _ => rfl, by simpa using hp⟩, ?_, ?_⟩
  · intro inFp
    rcases List.mem_cons.mp inFp with q | q
    · exact Nat.lt_irrefl _ (Nat.lt_of_lt_of_eq F.ns.lt q.symm)
    · exact hlL (List.mem_singleton.mp q).symm
  · intro b hb
    rw [List.mem_singleton.mp hb]
    exact next_is_new F
  · intro p hm hI
    exact absurd (Heap.lt_size (N p (.tail _ hm)).1) ((List.mem_singleton.mp hI) ▸ Nat.lt_irrefl _)
  · rintro i v m1 news1 s1 own ⟨hh', tk', rfl⟩ hin hP ⟨c, rfl, hf', h1, h2, hp'⟩ hoff hown hget hfp hst F1 N1
    obtain ⟨t, ev⟩ := item_at hi hin hP
    subst ev
    obtain ⟨hs, e⟩ := take_split ns hin
    have N2 : News h0 env.locals hh' (Led c ++ own) := fun p hm => N1 p ((List.mem_append.mp hm).elim (fun h => List.mem_append.mpr (.inr h)) fun h => List.mem_append.mpr (.inl h))
    obtain ⟨oI, gI, _, dI⟩ := hst.1
    have mI : (s.heap.objs.size, oI) ∈ own := hfp _ (.head _) (next_is_new F) oI gI
    refine wpAny_mono (turn c (ns.take i) (ns.drop (i + 1)) ns[i] t m1 hh' tk' own e (List.getElem_mem ..) hf' hp' (kst_fr h1 h2 F1) N2) (fun f s2 p => ?_) fun _ _ e => e
    have fin : ListEnd h0 env.locals Led ps Facts x stored m0 (P (ns.take i ++ [ns[i]])) own { s with heap := hh', toks := tk' } s2 → LoopStepU h0 env.locals [s.heap.objs.size] own (fun m nx => KstS Led ps Facts x stored m0 P (ns.take (i + 1)) m nx) { s with heap := hh', toks := tk' } .next s2 := by
      rintro ⟨c3, h3', tk3, m3, news3, rfl, F3, N3, hn3, ho3, hf3, hk3, hr3, hp3⟩
      refine ⟨rfl, h3', tk3, m3, Led c3, rfl, F3, fun p hm => N3 p ((List.mem_append.mp hm).elim (ho3 p) (hn3 p)), fun p hm hq => ?_, ⟨c3, rfl, hf3, hk3, hr3, by rw [hs]; exact hp3⟩⟩
      have g1 := (N3 p (hn3 p hm)).1
      have g2 := (N3 _ (ho3 _ mI)).1
      rw [List.mem_singleton.mp hq, g2] at g1
      exact hLed c3 hf3 p hm _ (by rw [← Option.some.inj g1]; exact dI)
    cases f with
    | ret v => exact .ret p
    | brk => exact .brk p
    | next => exact .next (fin p)
    | cont => exact .cont (fin p)
  · rintro h' tk m' news' F' N' _ ⟨c, rfl, hf', h1, h2, hp'⟩
    rw [List.take_length] at hp'
    exact done c m' h' tk hf' hp' (kst_frOut h1 h2 F') N'
/-- the loop that binds one list of ints anew, the rest of the ledger standing by -/
theorem kept_cell {o : Obj} {v : Option Value} (h : o.data = .cell v) : Kept o := fun f e => by rw [h] at e; cases e
theorem kept_list {a : Array Value} {n : Nat} : Kept (listOf a n) := fun _ e => (nomatch e)
theorem list_nocell {a : Array Value} {n : Nat} : ∀ v, (listOf a n).data ≠ .cell v := fun _ e => (nomatch e)
theorem found_range {r cx ad L : Addr} {ox : Obj} {v0 : Option Value} {vs : List Value} {nn : Nat} {ns : List Int} {a0 b0 : Int} {t0 u0 w0 : Tok} {n : Nat} {m0 : Str → Option Value} {rest : List (Addr × Obj)} (y : Str) (P : List Int → List Int → Prop)
    (eL : env.locals = L) (hh : A.handled = none) (hr : IsRange s.heap r a0 b0 1 t0 u0 w0) (hsmall : Builtin.Range.small a0 b0 1 = true) (hn : Builtin.Range.rangeSize a0 b0 1 = (n : Int))
    (hk : env.scope.kind = .function) (hx : env.kindOf x = some .cell) (hc : env.cells.lookup x = some cx)
    (F : Fr h0 L s.heap m0) (hy : m0 y = some (.ref ad)) (N : News h0 L s.heap ((ad, listOf vs.toArray nn) :: (cx, ox) :: rest))
    (hox : ox.data = .cell v0) (hrest : ∀ p ∈ rest, Kept p.2 ∧ (p.1 ≠ cx ∨ ∀ v, p.2.data ≠ .cell v)) (hi : IntsAre vs ns) (hp : P [] ns)
    (turn : ∀ (pre : List Int) (k : Int) t (ad : Addr) (vs : List Value) (nn : Nat) (ns : List Int) h tk o own, k = a0 + (pre.length : Int) → pre.length < n → IntsAre vs ns → P pre ns → o.data = .cell (some (.int k t)) →
      Fr h0 L h (fun z => if z = y then some (.ref ad) else m0 z) → News h0 L h ((ad, listOf vs.toArray nn) :: (cx, o) :: (rest ++ own)) →
      wpAny (model prog w) A (execs body env) (NewPost (σ := Addr × List Value × Nat × List Int) h0 L (fun c => (c.1, listOf c.2.1.toArray c.2.2.1) :: rest) (fun c => [(y, .ref c.1)]) (fun c => IntsAre c.2.1 c.2.2.2) m0 (fun c => P (pre ++ [k]) c.2.2.2) ((cx, o) :: own) { s with heap := h, toks := tk } Q) E { s with heap := h, toks := tk })
    (done : ∀ (ad : Addr) (vs : List Value) (nn : Nat) (ns : List Int) h tk, IntsAre vs ns → P (rangeKs a0 n) ns → Fr h0 L h (fun z => if z = y then some (.ref ad) else m0 z) → News h0 L h ((ad, listOf vs.toArray nn) :: rest) → Q .next { s with heap := h, toks := tk })
    (hE : PassesOwn (model prog w) A env E := by passes_own) :
    wpAny (model prog w) A (pyIter (.ref r)) (fun it s2 => LoopC prog w A env x px body Q E it s2) E s := by
  subst eL
  refine cell_range (σ := Addr × List Value × Nat × List Int) (fun c => (c.1, listOf c.2.1.toArray c.2.2.1) :: rest) (fun c => [(y, .ref c.1)]) (fun c => IntsAre c.2.1 c.2.2.2) (fun pre c => P pre c.2.2.2) (ad, vs, nn, ns) hh hr hsmall hn hk hx hc F ?_ ?_ hox hi hp ?_ ?_ ?_ hE
  · intro p hm
    rw [List.mem_singleton.mp hm]
    exact hy
  · intro p hm
    rcases List.mem_cons.mp hm with rfl | hm
    · exact N _ (.tail _ (.head _))
    · rcases List.mem_cons.mp hm with rfl | hm
      · exact N _ (.head _)
      · exact N _ (.tail _ (.tail _ hm))
  · intro c _ p hm
    rcases List.mem_cons.mp hm with rfl | hm
    · exact ⟨kept_list, .inr list_nocell⟩
    · exact hrest p hm
  · rintro ⟨ad, vs, nn, ns⟩ pre k t h tk o own e hl hi hp ho F N
    refine turn pre k t ad vs nn ns h tk o own e hl hi hp ho F (fun p hm => N p ?_)
    simp only [List.mem_cons, List.mem_append, List.cons_append] at hm ⊢
    rcases hm with h | h | h | h
    · exact .inl h
    · exact .inr (.inr (.inl h))
    · exact .inr (.inl h)
    · exact .inr (.inr (.inr h))
  · rintro ⟨ad, vs, nn, ns⟩ h tk hi hp F N
    exact done ad vs nn ns h tk hi hp F N
theorem found_end {L ad : Addr} {vs : List Value} {nn : Nat} {ns : List Int} {y : Str} {m0 m' : Str → Option Value} {P : List Int → Prop} {own rest news' : List (Addr × Obj)} {s1 : Shared} {h' : Heap} {tk : Nat}
    (F : Fr h0 L h' m') (hy : m' y = some (.ref ad)) (N : News h0 L h' news') (m3 : (ad, listOf vs.toArray nn) ∈ news') (m2 : ∀ p ∈ rest, p ∈ news') (ho : ∀ p ∈ own, p ∈ news') (hi : IntsAre vs ns) (hr : ∀ z, z ≠ y → m' z = m0 z) (hp : P ns) :
    NewEnd (σ := Addr × List Value × Nat × List Int) h0 L (fun c => (c.1, listOf c.2.1.toArray c.2.2.1) :: rest) (fun c => [(y, .ref c.1)]) (fun c => IntsAre c.2.1 c.2.2.2) m0 (fun c => P c.2.2.2) own s1 { s1 with heap := h', toks := tk } := by
  refine new_end (ad, vs, nn, ns) F ?_ N ?_ ho hi ?_ hp
  · intro p hm
    rw [List.mem_singleton.mp hm]
    exact hy
  · intro p hm
    rcases List.mem_cons.mp hm with rfl | hm
    · exact m3
    · exact m2 p hm
  · intro z hz
    exact hr z (hz _ (.head _))
/-- the loop over a made list that binds one list of two ints anew -/
theorem best_list {l ad : Addr} {vs : List Value} {ns : List Int} {nn n2 : Nat} {p q : Int} {t1 t2 : Tok} {m0 : Str → Option Value} {news : List (Addr × Obj)} (y : Str) (stored : List Str) (P : List Int → Int → Int → Prop)
    (hh : A.handled = none) (F : Fr h0 env.locals s.heap m0) (N : News h0 env.locals s.heap news) (m1 : (l, listOf vs.toArray nn) ∈ news) (hi : IntsAre vs ns) (hy : m0 y = some (.ref ad)) (m2 : (ad, listOf [Value.int p t1, Value.int q t2].toArray n2) ∈ news) (hp : P [] p q)
    (turn : ∀ pre post v t (u : Str → Option Value) (ad : Addr) (p q : Int) (t1 t2 : Tok) (n2 : Nat) h tk own, ns = pre ++ v :: post → v ∈ ns → P pre p q →
      Fr h0 env.locals h (fun z => if z = x then some (.int v t) else if z = y then some (.ref ad) else if stored.contains z then u z else m0 z) → News h0 env.locals h ((ad, listOf [Value.int p t1, Value.int q t2].toArray n2) :: own) →
      wpAny (model prog w) A (execs body env) (ListPost (σ := Addr × Int × Int × Tok × Tok × Nat) h0 env.locals (fun c => [(c.1, listOf [Value.int c.2.1 c.2.2.2.1, Value.int c.2.2.1 c.2.2.2.2.1].toArray c.2.2.2.2.2)]) (fun c => [(y, .ref c.1)]) (fun _ => True) x stored m0 (fun c => P (pre ++ [v]) c.2.1 c.2.2.1) own { s with heap := h, toks := tk } Q) E { s with heap := h, toks := tk })
    (done : ∀ (u : Str → Option Value) (ad : Addr) (p q : Int) (t1 t2 : Tok) (n2 : Nat) h tk, P ns p q → Fr h0 env.locals h (fun z => if z = x then u z else if z = y then some (.ref ad) else if stored.contains z then u z else m0 z) → News h0 env.locals h [(ad, listOf [Value.int p t1, Value.int q t2].toArray n2)] → Q .next { s with heap := h, toks := tk }) :
    wpAny (model prog w) A (pyIter (.ref l)) (fun it s2 => LoopAtV prog w A h0 env x body Q E it s2) E s := by
  refine new_list (σ := Addr × Int × Int × Tok × Tok × Nat) (ol := listOf vs.toArray nn) (fun c => [(c.1, listOf [Value.int c.2.1 c.2.2.2.1, Value.int c.2.2.1 c.2.2.2.2.1].toArray c.2.2.2.2.2)]) (fun c => [(y, .ref c.1)]) (fun _ => True) stored (fun pre c => P pre c.2.1 c.2.2.1) (ad, p, q, t1, t2, n2) hh ⟨_, (N _ m1).1, rfl, nn, rfl⟩ hi F ?_ ?_ trivial hp ?_ ?_ ?_
  · intro p hm
    rw [List.mem_singleton.mp hm]
    exact hy
  · intro p hm
    rcases List.mem_cons.mp hm with rfl | hm
    · exact N _ m1
    · rw [List.mem_singleton.mp hm]
      exact N _ m2
  · intro c _ p hm
    rw [List.mem_singleton.mp hm]
    exact kept_list
  · rintro ⟨ad, p, q, t1, t2, n2⟩ pre post v t u h tk own e hm _ hp F N
    exact turn pre post v t u ad p q t1 t2 n2 h tk own e hm hp F N
  · rintro ⟨ad, p, q, t1, t2, n2⟩ u h tk _ hp F N
    exact done u ad p q t1 t2 n2 h tk hp F N
theorem best_end {L ad : Addr} {n2 : Nat} {p q : Int} {t1 t2 : Tok} {y : Str} {stored : List Str} {m0 m' : Str → Option Value} {P : Int → Int → Prop} {own news' : List (Addr × Obj)} {s1 : Shared} {h' : Heap} {tk : Nat}
    (F : Fr h0 L h' m') (hy : m' y = some (.ref ad)) (N : News h0 L h' news') (m3 : (ad, listOf [Value.int p t1, Value.int q t2].toArray n2) ∈ news') (ho : ∀ p ∈ own, p ∈ news') (hr : ∀ z, z ≠ x → z ≠ y → stored.contains z = false → m' z = m0 z) (hp : P p q) :
    ListEnd (σ := Addr × Int × Int × Tok × Tok × Nat) h0 L (fun c => [(c.1, listOf [Value.int c.2.1 c.2.2.2.1, Value.int c.2.2.1 c.2.2.2.2.1].toArray c.2.2.2.2.2)]) (fun c => [(y, .ref c.1)]) (fun _ => True) x stored m0 (fun c => P c.2.1 c.2.2.1) own s1 { s1 with heap := h', toks := tk } := by
  refine list_end (ad, p, q, t1, t2, n2) F ?_ N ?_ ho trivial ?_ hp
  · intro p hm
    rw [List.mem_singleton.mp hm]
    exact hy
  · intro p hm
    rw [List.mem_singleton.mp hm]
    exact m3
  · intro z hx hz hs
    exact hr z hx (hz _ (.head _)) hs
end
theorem comp_el {h0 : Heap} {L I C D : Addr} {m : Str → Option Value} {s1 : Shared} {oI oC oD : Obj} {S : List (Addr × Obj) → Prop} {news all : List (Addr × Obj)} {l r : List Int} {y : Value} {h' : Heap} {tk : Nat}
    (F : Fr h0 L h' m) (N : News h0 L h' all) (sub : ∀ p ∈ (I, oI) :: (C, oC) :: (D, oD) :: news, p ∈ all) (off : LCg.Off3 I C D news) (hS : S news) (k : KCiEl news l r y news) :
    LCg.CompEnd h0 L m s1 I oI C oC D oD S (fun y news' => KCiEl news l r y news') y { s1 with heap := h', toks := tk } := LCg.CompEnd.intro F N news sub off hS k
theorem comp_no {h0 : Heap} {L I C D : Addr} {m : Str → Option Value} {s1 : Shared} {oI oC oD : Obj} {S : List (Addr × Obj) → Prop} {news all : List (Addr × Obj)} {l r : List Int} {y : Value} {h' : Heap} {tk : Nat}
    (F : Fr h0 L h' m) (N : News h0 L h' all) (sub : ∀ p ∈ (I, oI) :: (C, oC) :: (D, oD) :: news, p ∈ all) (off : LCg.Off3 I C D news) (hS : S news) (k : KCiNo news l r news) :
    LCg.CompEnd h0 L m s1 I oI C oC D oD S (fun _ news' => KCiNo news l r news') y { s1 with heap := h', toks := tk } := LCg.CompEnd.intro F N news sub off hS k
end RS

open PySem PySem.W PySem.Calls PyProof.Rows PyProof.V PySem.Spec
namespace RS
/-! A dict whose keys are tuples: walked, listed, asked by setdefault -/
def RawAt (h : Heap) (d : Addr) (es : Array DictEntry) (ep : Nat) : Prop := ∃ o, h.get? d = some o ∧ o.ExactDict ∧ o.data = .dict es ep
section
variable {prog : Program} {w : World} {A : Around} {E : Value → Shared → Prop} {s : Shared} {d : Addr} {es : Array DictEntry} {ep : Nat}
theorem RawAt.keeps {h h' : Heap} (x : RawAt h d es ep) (e : ∀ o, h.get? d = some o → h'.get? d = some o) : RawAt h' d es ep := let ⟨o, g, r⟩ := x; ⟨o, e o g, r⟩
theorem RawAt.lt {h : Heap} (x : RawAt h d es ep) : d < h.objs.size := let ⟨_, g, _⟩ := x; Heap.lt_size g
theorem RawAt.type (x : RawAt s.heap d es ep) : s.TypeIs (.ref d) "dict" := let ⟨o, g, c, _⟩ := x; ⟨o, g, c.1⟩
theorem raw_iter {Q : Value → Shared → Prop} (lo : (d == sysModules) = false) (x : RawAt s.heap d es ep)
    (fin : Q (.ref s.heap.objs.size) { s with heap := s.heap.push { cls := .type "dict_keyiterator", data := .fields #[.ref d, .int 0 0, .int es.size 0, .int ep 0] } }) :
    wpAny (model prog w) A (pyIter (Value.ref d)) Q E s := by
  have ty := x.type
  obtain ⟨ob, g, c, dt⟩ := x
  refine wpAny_pyIter_slot ty F.slot_dict_iter (wpAny_call_entry F.slot_dict_iter ty F.entry_dict_iter ?_ (F.args_dict_iter_1 _))
  unfold Builtin.«dict.__iter__»
  refine wpAny_bind ?_
  unfold Builtin.Dict.dictSlotNone
  refine wpAny_bind (wpAny_notOrdered_dict ty ?_)
  show wpAny _ _ (pure (Value.ref d)) _ _ s
  refine wpAny_pure ?_
  show wpAny _ _ (Builtin.Dict.showsAll d >>= _) _ _ s
  unfold Builtin.Dict.showsAll
  rw [if_neg (by rw [lo]; exact Bool.false_ne_true)]
  refine wpAny_bind (wpAny_pure ?_)
  refine wpAny_bind (wpAny_dictEntries g dt ?_)
  refine wpAny_bind (wpAny_dictEpoch g dt ?_)
  refine wpAny_bind (wpAny_newObj_type (wpAny_pure
    ⟨_, rfl, "dict_keyiterator", _, ⟨_, Heap.get?_push_size _ rfl, rfl⟩, F.slot_dict_keyiterator_next.lookup, ?rs_q⟩))
  simpa [rawInt] using fin
theorem raw_item {kt : Addr} {i : Nat} {en : DictEntry} {Q : Option Value → Shared → Prop} (ki : s.heap.IsKeyIter kt d i es.size ep) (x : RawAt s.heap d es ep) (hx : es[i]? = some en)
    (fin : ∀ h', h'.IsKeyIter kt d (i + 1) es.size ep → Heap.SameBut kt s.heap h' → Q (some en.key) { s with heap := h' }) :
    wpAny (model prog w) A (pyNext (Value.ref kt)) Q E s := by
  obtain ⟨ob, g1, c1, d1⟩ := id ki
  obtain ⟨od, g2, c2, d2⟩ := x
  unfold pyNext
  refine wpAny_bind (wpAny_attempt (wpAny_callSpecial?_slot (name := Str.ofString "__next__") ki.typeIs F.slot_dict_keyiterator_next
    (wpAny_call_entry F.slot_dict_keyiterator_next ki.typeIs F.entry_dict_keyiterator_next ?rs_m (F.args_dict_keyiterator_next_1 _))))
  refine wpAny_bind (wpAny_pure ?_)
  refine wpAny_bind ?_
  refine wpAny_bind ?_
  first | refine wpAny_bind (wpAny_typeNameOfWhole_keyiter ki.typeIs (wpAny_pure ?rs_a)) | refine wpAny_bind (wpAny_typeNameOf_keyiter ki.typeIs (wpAny_pure ?rs_a))
  refine wpAny_bind (wpAny_fieldsOf g1 d1 ?_)
  have ow : Builtin.Dict_items.ownsTuple "dict_keyiterator" = false := by decide
  simp only [ow, Bool.false_eq_true, if_false]
  show wpAny _ A.in1 (if (Value.ref d == Value.none) = true then _ else _) _ _ s
  rw [if_neg (show ¬ (Value.ref d == Value.none) = true from Bool.false_ne_true)]
  refine wpAny_bind (wpAny_pure ?_)
  refine wpAny_bind (wpAny_dictEntries g2 d2 ?_)
  rw [if_neg (by simp)]
  refine wpAny_bind (wpAny_pure ?_)
  refine wpAny_bind (wpAny_dictEpoch g2 d2 ?_)
  rw [if_neg (by simp)]
  refine wpAny_pure ?_
  simp only [show ¬ ((i : Int) < 0) by omega, if_false, Int.toNat_natCast, hx]
  refine wpAny_bind ?_
  first | refine wpAny_bind (wpAny_typeNameOfWhole_keyiter ki.typeIs (wpAny_pure ?rs_b)) | refine wpAny_bind (wpAny_typeNameOf_keyiter ki.typeIs (wpAny_pure ?rs_b))
  refine wpAny_bind (wpAny_isOneOf_keyiter ki.typeIs ?_)
  show wpAny _ _ (setField (.ref kt) 1 (rawInt ((i : Int) + 1)) >>= _) _ _ s
  refine wpAny_bind (wpAny_setField g1 d1 (by simp) ?_)
  have kj : (s.heap.update kt (Obj.mapFields (·.setIfInBounds 1 (rawInt ((i : Int) + 1))))).IsKeyIter kt d (i + 1) es.size ep :=
    ⟨_, Heap.get?_update_self _ g1 (Obj.isFreed_of_fields (Obj.data_mapFields d1 _)), (Obj.cls_mapFields ..).trans c1, by rw [Obj.data_mapFields d1]; simp [rawInt]⟩
  refine wpAny_bind (wpAny_holding ?_)
  refine wpAny_bind (wpAny_isOneOf_keyiter (s := { s with heap := s.heap.update kt (Obj.mapFields (·.setIfInBounds 1 (rawInt ((i : Int) + 1)))) }) kj.typeIs ?_)
  show wpAny _ _ (pure en.key) _ _ _
  exact wpAny_pure (wpAny_pure ⟨_, rfl, wpAny_pure (fin _ kj (Heap.SameBut.update ..))⟩)
theorem raw_end {kt : Addr} {i : Nat} {Q : Option Value → Shared → Prop} (nh : A.handled = none) (ki : s.heap.IsKeyIter kt d i es.size ep) (x : RawAt s.heap d es ep) (hx : es.size ≤ i)
    (fin : ∀ h', Heap.ExtBut kt s.heap h' → Q none { s with heap := h' }) : wpAny (model prog w) A (pyNext (.ref kt)) Q E s := by
  obtain ⟨ob, g1, c1, d1⟩ := id ki
  obtain ⟨od, g2, c2, d2⟩ := x
  unfold pyNext
  refine wpAny_bind (wpAny_attempt (wpAny_callSpecial?_slot (name := Str.ofString "__next__") ki.typeIs F.slot_dict_keyiterator_next
    (wpAny_call_entry F.slot_dict_keyiterator_next ki.typeIs F.entry_dict_keyiterator_next ?rs_m (F.args_dict_keyiterator_next_1 _))))
  refine wpAny_bind (wpAny_pure ?_)
  refine wpAny_bind ?_
  refine wpAny_bind ?_
  first | refine wpAny_bind (wpAny_typeNameOfWhole_keyiter ki.typeIs (wpAny_pure ?rs_a)) | refine wpAny_bind (wpAny_typeNameOf_keyiter ki.typeIs (wpAny_pure ?rs_a))
  refine wpAny_bind (wpAny_fieldsOf g1 d1 ?_)
  have ow : Builtin.Dict_items.ownsTuple "dict_keyiterator" = false := by decide
  simp only [ow, Bool.false_eq_true, if_false]
  show wpAny _ A.in1 (if (Value.ref d == Value.none) = true then _ else _) _ _ s
  rw [if_neg (show ¬ (Value.ref d == Value.none) = true from Bool.false_ne_true)]
  refine wpAny_bind (wpAny_pure ?_)
  refine wpAny_bind (wpAny_dictEntries g2 d2 ?_)
  rw [if_neg (by simp)]
  refine wpAny_bind (wpAny_pure ?_)
  refine wpAny_bind (wpAny_dictEpoch g2 d2 ?_)
  rw [if_neg (by simp)]
  refine wpAny_pure ?_
  simp only [show ¬ ((i : Int) < 0) by omega, if_false, Int.toNat_natCast, Array.getElem?_eq_none hx]
  refine wpAny_bind ?_
  first | refine wpAny_bind (wpAny_typeNameOfWhole_keyiter ki.typeIs (wpAny_pure ?rs_b)) | refine wpAny_bind (wpAny_typeNameOf_keyiter ki.typeIs (wpAny_pure ?rs_b))
  show wpAny _ _ (setField (.ref kt) 0 .none >>= _) _ _ s
  refine wpAny_bind (wpAny_setField g1 d1 (by simp) ?_)
  show wpAny _ _ (newExc (Value.type "StopIteration") [] >>= _) _ _ _
  refine wpAny_bind ?_
  simp only [newExc, newTuple]
  refine wpAny_bind (wpAny_newObj_type ?_ (by size_fits))
  refine wpAny_bind (m := firstArgMember _ _) (wpAny_of_eq (a := Value.none) (by first | rfl | (simp only [firstArgMember]; done)) ?_)
  refine wpAny_newObj_type ?_ (by size_fits)
  simp only [raiseNew]
  refine wpAny_bind (wpAny_handled ?_)
  rw [show A.in1.handled = none from nh]
  refine wpAny_bind (wpAny_pure (wpAny_throw ?_))
  refine wpAny_bind (wpAny_isInstance (b := true) (T := "StopIteration") ⟨_, Heap.get?_push_size _ rfl, rfl⟩ isSubtype_stop ?rs_z)
  exact wpAny_pure (fin _ (((Heap.SameBut.update ..).extBut.push _).push _))
theorem walks_raw (hh : A.handled = none) (I : Addr) (hne : d ≠ I) :
    Walks prog w A I [I, d] [I] es.size (fun i v => ∃ e, es[i]? = some e ∧ v = e.key) (fun i h => h.IsKeyIter I d i es.size ep ∧ RawAt h d es ep) where
  sub := fun b hb => by
    rw [List.mem_singleton.mp hb]
    exact .head _
  frame := fun _ _ _ st hk => ⟨st.1.at fun o e => hk I (.head _) o e, st.2.keeps fun o e => hk d (.tail _ (.head _)) o e⟩
  item := fun i s1 Q1 E1 hi st hq => by
    have hx : es[i]? = some es[i] := Array.getElem?_eq_getElem hi
    refine raw_item st.1 st.2 hx fun h' hit' hs' => ?_
    exact hq _ h' s1.toks ⟨_, hx, rfl⟩ ⟨hit', st.2.keeps fun o e => hs'.extBut d o hne e⟩ fun b o hb e => hs'.extBut b o (fun q => hb (q ▸ .head _)) e
  done := fun s Q E st hQ => raw_end hh st.1 st.2 (Nat.le_refl _) fun h' he' => hQ h' s.toks fun b o hb e => he' b o (fun q => hb (q ▸ .head _)) e
  self := fun _ _ _ _ st q => wpAny_pyIter_keyiter st.1 q
theorem src_raw (lo : (d == sysModules) = false) : KdlSrc prog w "dict" d d es.size (fun i v => ∃ e, es[i]? = some e ∧ v = e.key) (fun h => RawAt h d es ep) where
  type := fun _ x => x.type
  there := fun _ x => ⟨x.lt, x.lt⟩
  keep := fun _ _ x hk => x.keeps fun o e => hk d (.inl rfl) o e
  notList := by decide
  notTuple := by decide
  hint := fun _ _ _ _ x hq => kdl_hint_dict x.type hq
  iter := fun _ _ hh x => ⟨_, _, (fun _ _ hq => raw_iter lo x hq), walks_raw hh _ (Nat.ne_of_lt x.lt), ⟨⟨_, Heap.get?_push_size _ rfl, rfl, rfl⟩, x.keeps fun _ e => Heap.get?_push_of_some _ e⟩⟩
end
section
variable {prog : Program} {w : World} {K : Type} [DecidableEq K] {knd : HeapKind prog w K} {A : Around} {E : Value → Shared → Prop} {s : Shared} {d a : Addr} {k : K} {xs : List (K × Addr × Value)} {dflt : Value}
theorem setdef_tree {Q : Value → Shared → Prop} (hu : knd.room A) (hkey : knd.is s.heap k a) (hm : s.heap.DictOfH knd d xs)
    (h1 : ∀ p, atKey xs k = some p → Q p.2 { s with toks := s.toks + knd.draws k })
    (h2 : atKey xs k = none → ∀ h', h'.DictOfH knd d (xs ++ [(k, a, dflt)]) → Heap.SameBut d s.heap h' → Q dflt { s with heap := h', toks := s.toks + knd.draws k })
    (hsz : xs.length ≤ sizeLine) : wpAny (model prog w) A (dictSetDefault d (.ref a) dflt) Q E s := by
  obtain ⟨o, es, ep, g, c, dt, he, his, hn⟩ := hm
  unfold dictSetDefault
  try with_reducible refine wpAny_holding ?_
  refine wpAny_bind (knd.pyHash hu hkey ?_)
  refine wpAny_bind (wpAny_dictFind_heap (s := { s with toks := s.toks + knd.draws k }) hu hkey g dt he his hn ?_ ?_)
  · intro no
    have hnot : k ∉ xs.map (·.1) := not_mem_keys_of_get no
    refine wpAny_bind (wpAny_rule (wpAny_bind (wpAny_updateDictKeys (hz := by have e := size_of_entries he; omega) (s := { s with toks := s.toks + knd.draws k }) g dt (wpAny_pure (h2 (atKey_none_of_get no) _
      ⟨_, _, ep + 1, Heap.get?_update_self _ g (Obj.isFreed_of_dict (Obj.data_mapDictKeys dt _)), c.mapDictKeys _, Obj.data_mapDictKeys dt _, ?_, ?_, ?_⟩ (Heap.SameBut.update ..))))))
    · simp [he, entryOfKey]
    · intro x hx
      rcases List.mem_append.mp hx with hx | hx
      · exact knd.keeps (his x hx) g dt (Heap.SameBut.update ..)
      · rw [List.mem_singleton.mp hx]
        exact knd.keeps hkey g dt (Heap.SameBut.update ..)
    · rw [List.map_append, List.nodup_append]
      refine ⟨hn, List.nodup_cons.mpr ⟨by simp, List.nodup_nil⟩, fun x hx y hy e => ?_⟩
      rw [List.map_cons, List.map_nil, List.mem_singleton] at hy
      rw [e, hy] at hx
      exact hnot hx
  · intro j p hj
    refine wpAny_bind (wpAny_dictEntries (s := { s with toks := s.toks + knd.draws k }) g dt ?_)
    rw [entry_at he j, hj]
    exact wpAny_bind (wpAny_rule (wpAny_pure (h1 p (atKey_of_get hn hj))))
theorem setdef_meets (knd : HeapKind prog w K) (lo : (d == sysModules) = false) :
    MeetsIn prog w (Builtin.«dict.setdefault» ⟨[.ref d, .ref a, dflt], []⟩) (fun A R s => knd.room A.in1 ∧ ∃ k xs, knd.is s.heap k a ∧ s.heap.DictOfH knd d xs ∧ xs.length ≤ sizeLine ∧
      (∀ p, atKey xs k = some p → R (.ok (.ret p.2)) { s with toks := s.toks + knd.draws k }) ∧
      (atKey xs k = none → ∀ h', h'.DictOfH knd d (xs ++ [(k, a, dflt)]) → Heap.SameBut d s.heap h' → R (.ok (.ret dflt)) { s with heap := h', toks := s.toks + knd.draws k })) :=
  .of_wp fun A R s ⟨hu, k, xs, hkey, hm, hz, h1, h2⟩ => by
    unfold Builtin.«dict.setdefault»
    refine wpAny_bind ?_
    unfold Builtin.Dict.keyAndDefault
    refine wpAny_bind (wpAny_notOrdered_dict hm.typeIs ?_)
    show wpAny _ _ (pure (d, Value.ref a, some dflt)) _ _ s
    refine wpAny_pure ?_
    show wpAny _ _ (if (d == sysModules) = true then _ else (dictSetDefault d (.ref a) dflt >>= _)) _ _ s
    rw [if_neg (by rw [lo]; exact Bool.false_ne_true)]
    exact wpAny_bind (setdef_tree hu hkey hm (fun p hp => wpAny_pure ⟨p.2, rfl, h1 p hp⟩) (fun no h' hm' hs' => wpAny_pure ⟨dflt, rfl, h2 no h' hm' hs'⟩) hz)
theorem setdef_call {Q : Value → Shared → Prop} (lo : (d == sysModules) = false) (hu : knd.room A.in1) (hkey : knd.is s.heap k a) (hm : s.heap.DictOfH knd d xs) (hsz : xs.length ≤ sizeLine)
    (h1 : ∀ p, atKey xs k = some p → Q p.2 { s with toks := s.toks + knd.draws k })
    (h2 : atKey xs k = none → ∀ h', h'.DictOfH knd d (xs ++ [(k, a, dflt)]) → Heap.SameBut d s.heap h' → Q dflt { s with heap := h', toks := s.toks + knd.draws k }) :
    wpAny (model prog w) A (call (.builtin "dict.setdefault") [.ref d, .ref a, dflt]) Q E s :=
  call_meetsIn PySem.F.slot_dict_setdefault hm.typeIs PySem.F.entry_dict_setdefault (PySem.F.args_dict_setdefault_3 _ _ _) (setdef_meets knd lo) ⟨hu, k, xs, hkey, hm, hsz, h1, h2⟩
end
end RS

open PySem PySem.W PySem.Calls PyProof.Rows PyProof.V PySem.Spec
namespace RS
/-! The dict of least masks, its keys two whole numbers: what the call has made -/
structure Ent where
  c : Int
  r : Int
  m : Int
  a : Addr
  tc : Tok
  tr : Tok
  tm : Tok
def pairObj (c : Int) (tc : Tok) (r : Int) (tr : Tok) : Obj := { cls := .type "tuple", data := .seq #[.int c tc, .int r tr] }
def Ent.obj (e : Ent) : Obj := pairObj e.c e.tc e.r e.tr
def Ent.x (e : Ent) : List Int × Addr × Value := ([e.c, e.r], e.a, .int e.m e.tm)
def ledOf (es : List Ent) : List (Addr × Obj) := es.map fun e => (e.a, e.obj)
theorem led_mem {es : List Ent} {e : Ent} (h : e ∈ es) : (e.a, e.obj) ∈ ledOf es := List.mem_map.mpr ⟨e, h, rfl⟩
structure IsTab (prog : Program) (w : World) (o : Obj) (es : List Ent) : Prop where
  exact : o.ExactDict
  data : ∃ arr ep, o.data = .dict arr ep ∧ arr.toList = (es.map Ent.x).map (entryOfKey (tupleKind (intKind prog w)))
  nodup : ((es.map Ent.x).map (·.1)).Nodup
section
variable {prog : Program} {w : World} {A : Around} {E : Value → Shared → Prop} {s : Shared} {h0 : Heap} {L d : Addr} {m : Str → Option Value} {news : List (Addr × Obj)} {o : Obj} {es : List Ent}
theorem IsTab.nofields (T : IsTab prog w o es) : Kept o := by
  obtain ⟨arr, ep, q, _⟩ := T.data
  intro f e
  rw [q] at e
  cases e
theorem IsTab.noseq (T : IsTab prog w o es) : ∀ a n, o.data ≠ .seq a n := by
  obtain ⟨arr, ep, q, _⟩ := T.data
  intro a n e
  rw [q] at e
  cases e
theorem kept_pair {c r : Int} {tc tr : Tok} : Kept (pairObj c tc r tr) := fun _ e => (nomatch e)
theorem key_at {h : Heap} {a : Addr} {c r : Int} {tc tr : Tok} (g : h.get? a = some (pairObj c tc r tr)) : IsTupleKey (intKind prog w) h [c, r] a :=
  ⟨_, _, _, g, rfl, rfl, .cons (intKind_is _ _ _ _) (.cons (intKind_is _ _ _ _) .nil)⟩
theorem tab_dict {h : Heap} (T : IsTab prog w o es) (N : News h0 L h news) (md : (d, o) ∈ news) (mk : ∀ p ∈ ledOf es, p ∈ news) : h.DictOfH (tupleKind (intKind prog w)) d (es.map Ent.x) := by
  obtain ⟨arr, ep, q, e⟩ := T.data
  refine ⟨o, arr, ep, (N _ md).1, T.exact, q, e, fun x hx => ?_, T.nodup⟩
  obtain ⟨y, hy, rfl⟩ := List.mem_map.mp hx
  exact key_at (N _ (mk _ (led_mem hy))).1
theorem ent_at {e : Ent} (he : e ∈ es) (hn : ((es.map Ent.x).map (·.1)).Nodup) : atKey (es.map Ent.x) [e.c, e.r] = some (e.a, .int e.m e.tm) := by
  obtain ⟨i, hi⟩ := List.mem_iff_getElem?.mp he
  exact atKey_of_get (i := i) hn (by rw [List.getElem?_map, hi]; rfl)
theorem ent_of {k : List Int} {p : Addr × Value} (h : atKey (es.map Ent.x) k = some p) : ∃ e ∈ es, k = [e.c, e.r] ∧ p.2 = .int e.m e.tm := by
  unfold atKey at h
  obtain ⟨x, hx, hp⟩ := Option.map_eq_some_iff.mp h
  have m := List.mem_of_find?_eq_some hx
  have q := List.find?_some hx
  obtain ⟨e, he, rfl⟩ := List.mem_map.mp m
  exact ⟨e, he, (of_decide_eq_true q).symm, by rw [← hp]; rfl⟩
theorem ent_none {c r : Int} (h : atKey (es.map Ent.x) [c, r] = none) : ∀ e ∈ es, ¬ (e.c = c ∧ e.r = r) := by
  rintro e he ⟨rfl, rfl⟩
  unfold atKey at h
  rw [Option.map_eq_none_iff, List.find?_eq_none] at h
  exact h e.x (List.mem_map.mpr ⟨e, he, rfl⟩) (decide_eq_true rfl)
/-- least[key] -/
theorem tab_item {value slice : PySem.Expr} {Q : Value → Shared → Prop} {a : Addr} {c r : Int} {tc tr : Tok} (T : IsTab prog w o es) (hu : A.units + 1 < cLine) (N : News h0 L s.heap news) (md : (d, o) ∈ news) (mk : ∀ p ∈ ledOf es, p ∈ news) (ma : (a, pairObj c tc r tr) ∈ news)
    (hin : ∃ e ∈ es, e.c = c ∧ e.r = r) (h : ∀ e ∈ es, e.c = c → e.r = r → ∀ tk, Q (.int e.m e.tm) { s with toks := tk })
    (hs : subscripted slice false (.ref d) (.ref a) = operate [.ref d, .ref a] (getItem (.ref d) (.ref a)) := by with_unfolding_all rfl) (hg : ∀ v, letTemporaryGo value (.ref d) v = pure () := by intro _; with_unfolding_all rfl) :
    wpAny (model prog w) A (subscriptTail value slice (Value.ref d) (Value.ref a)) Q E s := by
  obtain ⟨e, he, rfl, rfl⟩ := hin
  have D := tab_dict T N md mk
  exact subscriptTail_builtin D.typeIs slot_dict_getitem.lookup (wpAny_getItem_heap (k := [e.c, e.r]) (tupleKind_room_in1 hu) (key_at (N _ ma).1) D (ent_at he T.nodup) (h e he rfl rfl _)) hs hg
/-- (n, 0) not in least -/
theorem tab_notin {Q : Value → Shared → Prop} {a : Addr} {c r : Int} {tc tr : Tok} (lo : (d == sysModules) = false) (T : IsTab prog w o es) (hu : A.units + 1 < cLine) (N : News h0 L s.heap news) (md : (d, o) ∈ news) (mk : ∀ p ∈ ledOf es, p ∈ news) (ma : (a, pairObj c tc r tr) ∈ news)
    (h1 : (∀ e ∈ es, ¬ (e.c = c ∧ e.r = r)) → ∀ tk, Q (.bool true) { s with toks := tk }) (h2 : (∃ e ∈ es, e.c = c ∧ e.r = r) → ∀ tk, Q (.bool false) { s with toks := tk }) :
    wpAny (model prog w) A (compareOp .NotIn (.ref a) (.ref d)) Q E s := by
  have D := tab_dict T N md mk
  refine wpAny_notIn_heap (k := [c, r]) (tupleKind_room_in1 hu) (key_at (N _ ma).1) lo D ?_
  cases q : atKey (es.map Ent.x) [c, r] with
  | none => exact h1 (ent_none q) _
  | some p =>
    obtain ⟨e, he, ek, _⟩ := ent_of q
    injection ek with e1 e2
    injection e2 with e2 _
    exact h2 ⟨e, he, e1.symm, e2.symm⟩ _
/-- what setdefault makes of the entries -/
def Put (es : List Ent) (c r m : Int) (es' : List Ent) : Prop :=
  ((∃ e ∈ es, e.c = c ∧ e.r = r) ∧ es' = es) ∨ ((∀ e ∈ es, ¬ (e.c = c ∧ e.r = r)) ∧ ∃ a tc tr tm, es' = es ++ [⟨c, r, m, a, tc, tr, tm⟩])
theorem Put.sub {es es' : List Ent} {c r m : Int} (h : Put es c r m es') {e : Ent} (he : e ∈ es) : e ∈ es' := by
  rcases h with ⟨_, q⟩ | ⟨_, a, tc, tr, tm, q⟩
  · rw [q]; exact he
  · rw [q]; exact List.mem_append_left _ he
theorem tab_setdef {Q : Value → Shared → Prop} {a : Addr} {c r v : Int} {tc tr tv : Tok} (own : List (Addr × Obj)) (lo : (d == sysModules) = false) (T : IsTab prog w o es) (hu : A.units + 1 < cLine) (F : Fr h0 L s.heap m) (N : News h0 L s.heap news) (md : (d, o) ∈ news)
    (mk : ∀ p ∈ ledOf es, p ∈ news) (ma : (a, pairObj c tc r tr) ∈ news) (mo : ∀ p ∈ own, p ∈ news) (no : ∀ p ∈ own, p.1 ≠ d) (hz : es.length ≤ 16777216)
    (h : ∀ (v' : Int) (t' : Tok) h' tk o' es', Fr h0 L h' m → News h0 L h' ((d, o') :: (ledOf es' ++ own)) → IsTab prog w o' es' → Put es c r v es' → Q (.int v' t') { s with heap := h', toks := tk }) :
    wpAny (model prog w) A (call (.builtin "dict.setdefault") [.ref d, .ref a, .int v tv]) Q E s := by
  have D := tab_dict T N md mk
  refine setdef_call (k := [c, r]) lo (tupleKind_room_in1 hu) (key_at (N _ ma).1) D (by rw [List.length_map, sizeLine_eq]; exact hz) ?_ ?_
  · intro p hp
    obtain ⟨e, he, ek, ev⟩ := ent_of hp
    injection ek with e1 e2
    injection e2 with e2 _
    rw [ev]
    refine h e.m e.tm s.heap _ o es F (fun q hq => ?_) T (.inl ⟨⟨e, he, e1.symm, e2.symm⟩, rfl⟩)
    rcases List.mem_cons.mp hq with rfl | hq
    · exact N _ md
    · rcases List.mem_append.mp hq with hq | hq
      · exact N _ (mk q hq)
      · exact N _ (mo q hq)
  · intro hno h' D' hs
    obtain ⟨o', arr, ep, g', c', d', e', _, n'⟩ := D'
    have md0 := N _ md
    have F' : Fr h0 L h' m := F.change hs md0.2.1 md0.2.2
    have other : ∀ p ∈ news, p.1 ≠ d → h'.get? p.1 = some p.2 ∧ p.1 ≠ L ∧ h0.get? p.1 = none := fun p hp hne => ⟨hs.extBut _ _ hne (N p hp).1, (N p hp).2⟩
    have tup : ∀ {b : Addr} {c1 r1 : Int} {t1 t2 : Tok}, (b, pairObj c1 t1 r1 t2) ∈ news → b ≠ d := by
      intro b c1 r1 t1 t2 hb e
      have g : s.heap.get? b = some (pairObj c1 t1 r1 t2) := (N _ hb).1
      have g2 : s.heap.get? d = some o := md0.1
      rw [e, g2] at g
      exact T.noseq _ _ (by rw [Option.some.inj g]; rfl)
    refine h v tv h' _ o' (es ++ [⟨c, r, v, a, tc, tr, tv⟩]) F' (fun q hq => ?_) ⟨c', ⟨arr, ep, d', ?_⟩, ?_⟩ (.inr ⟨ent_none hno, a, tc, tr, tv, rfl⟩)
    · rcases List.mem_cons.mp hq with rfl | hq
      · exact ⟨g', md0.2⟩
      · rcases List.mem_append.mp hq with hq | hq
        · unfold ledOf at hq
          rw [List.map_append] at hq
          rcases List.mem_append.mp hq with hq | hq
          · obtain ⟨e, he, rfl⟩ := List.mem_map.mp hq
            have mem := mk _ (led_mem he)
            exact other _ mem (tup mem)
          · rw [List.map_cons, List.map_nil, List.mem_singleton] at hq
            subst hq
            exact other _ ma (tup ma)
        · exact other q (mo q hq) (no q hq)
    · rw [e', List.map_append (f := Ent.x)]
      rfl
    · rw [List.map_append (f := Ent.x)]
      exact n'
/-- list(least) -/
theorem tab_list {Q : Value → Shared → Prop} (lo : (d == sysModules) = false) (hh : A.handled = none) (T : IsTab prog w o es) (F : Fr h0 L s.heap m) (N : News h0 L s.heap news) (md : (d, o) ∈ news) (hz : es.length ≤ 16777216)
    (h : ∀ (D : Addr) c h' tk, Fr h0 L h' m → News h0 L h' ((D, listOf (es.map fun e => Value.ref e.a).toArray c) :: news) → (∀ q ∈ news, q.1 < D) → Q (.ref D) { s with heap := h', toks := tk }) :
    wpAny (model prog w) A (call (Value.type "list") [Value.ref d]) Q E s := by
  obtain ⟨arr, ep, q, e⟩ := T.data
  have sz : arr.size = es.length := by rw [← Array.length_toList, e, List.length_map, List.length_map]
  refine kdl_N (src_raw (es := arr) (ep := ep) lo) hh F N ⟨o, (N _ md).1, T.exact, q⟩ (by rw [sizeLine_eq, sz]; exact hz) fun B c h' tk vs F' N' l1 hl hv => ?_
  have ev : vs = es.map fun e => Value.ref e.a := by
    refine List.ext_getElem? fun j => ?_
    cases g : vs[j]? with
    | none =>
      have : vs.length ≤ j := List.getElem?_eq_none_iff.mp g
      rw [List.getElem?_eq_none (by rw [List.length_map]; omega)]
    | some v =>
      obtain ⟨en, g2, rfl⟩ := hv j v g
      rw [← Array.getElem?_toList, e, List.getElem?_map, List.getElem?_map] at g2
      rw [List.getElem?_map]
      cases g3 : es[j]? with
      | none =>
        rw [g3] at g2
        cases g2
      | some y =>
        rw [g3] at g2
        have := Option.some.inj g2
        rw [← this]
        rfl
  subst ev
  exact h B c h' tk F' N' l1
end
end RS

open PySem PySem.W PySem.Calls PyProof.Rows PyProof.V PySem.Spec
namespace RS
/-! The two loops of least_masks: over the row with its places, and over the keys there are -/
def LoopE (prog : Program) (w : World) (A : Around) (env : Env) (xi : Str) (pi : Pos) (xc : Str) (pc : Pos) (x1 : Nat) (pt : Pos) (body : List Stmt) (Q : Flow → Shared → Prop) (E : Value → Shared → Prop) (it : Value) (s2 : Shared) : Prop :=
  codeAny (model prog w) A (.forLoop (.Tuple [.Name xi pi, .Name xc pc] x1 pt) it body [] env) (fun r s' => match r with | .ok f => Q f s' | .error e => cameBackBy (model prog w) A env E e s') s2
def TabEnd (prog : Program) (w : World) (h0 : Heap) (L d : Addr) (x : Str) (stored : List Str) (m0 : Str → Option Value) (P : List Ent → Prop) (own : List (Addr × Obj)) (s1 s2 : Shared) : Prop :=
  ∃ (o : Obj) (es : List Ent) (h' : Heap) (tk : Nat) (m' : Str → Option Value) (news' : List (Addr × Obj)), s2 = { s1 with heap := h', toks := tk } ∧ Fr h0 L h' m' ∧ News h0 L h' news' ∧ (d, o) ∈ news' ∧ (∀ p ∈ ledOf es, p ∈ news') ∧ (∀ p ∈ own, p ∈ news') ∧
    IsTab prog w o es ∧ (∀ z, z ≠ x → stored.contains z = false → m' z = m0 z) ∧ P es
def TabPost (prog : Program) (w : World) (h0 : Heap) (L d : Addr) (x : Str) (stored : List Str) (m0 : Str → Option Value) (P : List Ent → Prop) (own : List (Addr × Obj)) (s1 : Shared) (Q : Flow → Shared → Prop) (f : Flow) (s2 : Shared) : Prop :=
  match f with
  | .ret v => Q (.ret v) s2
  | .brk => Q .next s2
  | _ => TabEnd prog w h0 L d x stored m0 P own s1 s2
section
variable {prog : Program} {w : World} {A : Around} {E : Value → Shared → Prop} {s : Shared} {env : Env} {h0 : Heap} {L d : Addr} {Q : Flow → Shared → Prop} {body : List Stmt}
theorem tab_end {x : Str} {stored : List Str} {m0 m' : Str → Option Value} {P : List Ent → Prop} {own news' : List (Addr × Obj)} {s1 : Shared} {h' : Heap} {tk : Nat} {o : Obj} {es : List Ent}
    (F : Fr h0 L h' m') (N : News h0 L h' news') (md : (d, o) ∈ news') (mk : ∀ p ∈ ledOf es, p ∈ news') (mo : ∀ p ∈ own, p ∈ news') (T : IsTab prog w o es) (hr : ∀ z, z ≠ x → stored.contains z = false → m' z = m0 z) (hp : P es) :
    TabEnd prog w h0 L d x stored m0 P own s1 { s1 with heap := h', toks := tk } := ⟨o, es, h', tk, m', news', rfl, F, N, md, mk, mo, T, hr, hp⟩
theorem for_enum {xi xc : Str} {pi pc pt pos : Pos} {x1 : Nat} {iter : PySem.Expr} (h : wpAny (model prog w) A (eval iter env) (fun xv s1 => wpAny (model prog w) A (pyIter xv) (fun it s2 => LoopE prog w A env xi pi xc pc x1 pt body Q E it s2) E s1) E s)
    (hs : ∀ x, foldedSetIterable iter env x = pure x := by intro _; rfl) : wpAny (model prog w) A (exec (.For (.Tuple [.Name xi pi, .Name xc pc] x1 pt) iter body [] pos) env) Q E s := wpAny_For h hs
theorem fr_out {h : Heap} {x : Str} {stored : List Str} {m0 m1 : Str → Option Value} (h2 : ∀ z, z ≠ x → stored.contains z = false → m1 z = m0 z) (F : Fr h0 L h m1) : Fr h0 L h (fun y => if y = x then m1 y else if stored.contains y then m1 y else m0 y) := by
  have em : (fun y => if y = x then m1 y else if stored.contains y then m1 y else m0 y) = m1 := by
    funext y
    by_cases c : y = x
    · rw [if_pos c]
    · rw [if_neg c]
      by_cases c2 : stored.contains y = true
      · rw [if_pos c2]
      · rw [if_neg c2]
        exact (h2 y c (by simpa using c2)).symm
  rw [em]
  exact F
theorem fr_in {h : Heap} {x : Str} {v : Value} {stored : List Str} {m0 m1 : Str → Option Value} (h2 : ∀ z, z ≠ x → stored.contains z = false → m1 z = m0 z) (F : Fr h0 L h (fun y => if y = x then some v else m1 y)) : Fr h0 L h (fun y => if y = x then some v else if stored.contains y then m1 y else m0 y) := by
  have em : (fun y => if y = x then some v else if stored.contains y then m1 y else m0 y) = fun y => if y = x then some v else m1 y := by
    funext y
    by_cases c : y = x
    · rw [if_pos c, if_pos c]
    · rw [if_neg c, if_neg c]
      by_cases c2 : stored.contains y = true
      · rw [if_pos c2]
      · rw [if_neg c2]
        exact (h2 y c (by simpa using c2)).symm
  rw [em]
  exact F
theorem fr_two {h : Heap} {x y : Str} {v u : Value} {stored : List Str} {m0 m1 : Str → Option Value} (h2 : ∀ z, z ≠ x → (y :: stored).contains z = false → m1 z = m0 z) (F : Fr h0 L h (fun z => if z = x then some v else if z = y then some u else m1 z)) :
    Fr h0 L h (fun z => if z = x then some v else if z = y then some u else if stored.contains z then m1 z else m0 z) := by
  have em : (fun z => if z = x then some v else if z = y then some u else if stored.contains z then m1 z else m0 z) = fun z => if z = x then some v else if z = y then some u else m1 z := by
    funext z
    by_cases c : z = x
    · rw [if_pos c, if_pos c]
    · rw [if_neg c, if_neg c]
      by_cases c1 : z = y
      · rw [if_pos c1, if_pos c1]
      · rw [if_neg c1, if_neg c1]
        by_cases c2 : stored.contains z = true
        · rw [if_pos c2]
        · rw [if_neg c2]
          exact (h2 z c (by rw [List.contains_cons]; simp [c1]; simpa using c2)).symm
  rw [em]
  exact F
theorem led_kept {es : List Ent} {p : Addr × Obj} (h : p ∈ ledOf es) : Kept p.2 := by
  obtain ⟨e, _, rfl⟩ := List.mem_map.mp h
  exact kept_pair
/-- what the dict and its keys are not: an iterator -/
theorem tab_off {h : Heap} {o : Obj} {es : List Ent} (T : IsTab prog w o es) (N : News h0 L h ((d, o) :: ledOf es)) {b : Addr} {ob : Obj} {f : Array Value} (g : h.get? b = some ob) (hf : ob.data = .fields f) : ∀ p ∈ (d, o) :: ledOf es, p.1 ≠ b := by
  intro p hp e
  have g1 := (N p hp).1
  rw [e, g] at g1
  have e2 : ob = p.2 := Option.some.inj g1
  rw [e2] at hf
  rcases List.mem_cons.mp hp with rfl | hq
  · exact T.nofields _ hf
  · exact led_kept hq _ hf
theorem no_dict {h : Heap} {o : Obj} {es : List Ent} {news rest : List (Addr × Obj)} (T : IsTab prog w o es) (N : News h0 L h news) (md : (d, o) ∈ news) (mr : ∀ p ∈ rest, p ∈ news) (nr : ∀ p ∈ rest, ∀ x y, p.2.data ≠ .dict x y) : ∀ p ∈ rest, p.1 ≠ d := by
  intro p hp e
  obtain ⟨arr, ep, q, _⟩ := T.data
  have g1 : h.get? p.1 = some p.2 := (N p (mr p hp)).1
  have g2 : h.get? d = some o := (N _ md).1
  rw [e, g2] at g1
  exact nr p hp arr ep (by rw [← Option.some.inj g1]; exact q)
theorem enum_loop {l : Addr} {o : Obj} {es : List Ent} {vs : List Value} {ns : List Int} {m0 : Str → Option Value} {news : List (Addr × Obj)} {xi xc : Str} {pi pc pt : Pos} {x1 : Nat} (stored : List Str) (rest : List (Addr × Obj)) (P : List Int → List Ent → Prop)
    (eL : env.locals = L) (hh : A.handled = none) (hxi : env.kindOf xi = some .local) (hxc : env.kindOf xc = some .local) (hsc : (env.scope.kind == .class || (env.scope.kind == .module && env.locals != env.globals)) = false)
    (hl : h0.IsList l vs.toArray) (hi : IntsAre vs ns) (F : Fr h0 L s.heap m0) (N : News h0 L s.heap news) (md : (d, o) ∈ news) (mk : ∀ p ∈ ledOf es, p ∈ news) (mr : ∀ p ∈ rest, p ∈ news) (nr : ∀ p ∈ rest, ∀ x y, p.2.data ≠ .dict x y) (T : IsTab prog w o es) (hP : P [] es)
    (turn : ∀ (pre post : List Int) (x i : Int) (t t' : Tok) (u : Str → Option Value) (o : Obj) (es : List Ent) h tk own, ns = pre ++ x :: post → i = (pre.length : Int) → x ∈ ns → IsTab prog w o es → P pre es → (∀ p ∈ rest ++ own, p.1 ≠ d) →
      Fr h0 L h (fun z => if z = xc then some (.int x t) else if z = xi then some (.int i t') else if stored.contains z then u z else m0 z) → News h0 L h ((d, o) :: (ledOf es ++ (rest ++ own))) →
      wpAny (model prog w) A (execs body env) (TabPost prog w h0 L d xc (xi :: stored) m0 (P (pre ++ [x])) (rest ++ own) { s with heap := h, toks := tk } Q) E { s with heap := h, toks := tk })
    (done : ∀ (u : Str → Option Value) (o : Obj) (es : List Ent) h tk, IsTab prog w o es → P ns es → Fr h0 L h (fun z => if z = xc then u z else if (xi :: stored).contains z then u z else m0 z) → News h0 L h ((d, o) :: (ledOf es ++ rest)) → Q .next { s with heap := h, toks := tk })
    (hE : PassesOwn (model prog w) A env E := by passes_own) :
    wpAny (model prog w) A (call (.type "enumerate") [.ref l]) (fun xv s1 => wpAny (model prog w) A (pyIter xv) (fun it s2 => LoopE prog w A env xi pi xc pc x1 pt body Q E it s2) E s1) E s := by
  subst eL
  replace nr : ∀ p ∈ rest, p.1 ≠ d := no_dict T N md mr nr
  have hl1 : s.heap.IsList l vs.toArray := hl.at fun o e => F.keep l o e
  have hlt : l < s.heap.objs.size := by
    obtain ⟨ol, gl, _⟩ := hl1
    exact Heap.lt_size gl
  have lt0 : ∀ b o, h0.get? b = some o → b < s.heap.objs.size := fun b o e => Heap.lt_size (F.keep b o e)
  refine call_enumerate_list hl1 fun h1 hE1 hI1 hz1 hk1 => ?_
  refine wpAny_pyIter_enum hE1 ?_
  generalize hIt : s.heap.objs.size = it at *
  have hnI : h0.get? it = none := by rw [← hIt]; exact next_is_new F
  have hnE : h0.get? (it + 1) = none := by
    cases q : h0.get? (it + 1) with
    | none => rfl
    | some o => exact absurd (lt0 _ o q) (Nat.not_lt.mpr (Nat.le_succ it))
  have hLlt : env.locals < it := by rw [← hIt]; exact F.ns.lt
  have hlL : l < env.locals := by
    obtain ⟨ol, gl, _⟩ := id hl
    exact Nat.lt_of_lt_of_le (Heap.lt_size gl) F.above
  have W := WalksT.enumerate (prog := prog) (w := w) (A := A) hh (it + 1) it l (Nat.succ_ne_self it) (Nat.ne_of_lt (Nat.lt_succ_of_lt hlt)) (Nat.ne_of_lt hlt) vs.toArray
  have sz : vs.toArray.size = ns.length := (List.size_toArray ..).trans hi.length
  have hLf : env.locals ∉ [it + 1, it, l] := by
    intro q
    rcases List.mem_cons.mp q with q | q
    · exact Nat.ne_of_lt (Nat.lt_succ_of_lt hLlt) q
    · rcases List.mem_cons.mp q with q | q
      · exact Nat.ne_of_lt hLlt q
      · exact Nat.ne_of_gt hlL (List.mem_singleton.mp q)
  have wr0 : ∀ b ∈ [it + 1, it], h0.get? b = none := by
    intro b hb
    rcases List.mem_cons.mp hb with rfl | hb
    · exact hnE
    · rw [List.mem_singleton.mp hb]
      exact hnI
  have hLw : env.locals ∉ [it + 1, it] := fun q => hLf (W.sub _ q)
  have old : ∀ b o, h0.get? b = some o → b ∉ [it + 1, it] := fun b o e hb => by
    rw [wr0 b hb] at e
    cases e
  have hd_lt : d < it := by rw [← hIt]; exact Heap.lt_size (N _ md).1
  have hrI : ∀ p ∈ rest, p.1 < it := fun p hp => by rw [← hIt]; exact Heap.lt_size (N _ (mr p hp)).1
  have cut : ∀ {h : Heap} {o : Obj} {es : List Ent}, News h0 env.locals h ((d, o) :: (ledOf es ++ rest)) → News h0 env.locals h ((d, o) :: ledOf es) := by
    intro h o es N1 p hp
    rcases List.mem_cons.mp hp with rfl | hp
    · exact N1 _ (.head _)
    · exact N1 p (.tail _ (List.mem_append_left _ hp))
  have off : ∀ {o : Obj} {es : List Ent} {i : Nat} {h : Heap}, IsTab prog w o es → News h0 env.locals h ((d, o) :: (ledOf es ++ rest)) → ((∃ ol, IsEnum h (it + 1) it i ol) ∧ h.IsListIter it l i ∧ h.IsList l vs.toArray) → ∀ p ∈ (d, o) :: (ledOf es ++ rest), p.1 ∉ [it + 1, it] := by
    intro o es i h T N st p hp hq
    obtain ⟨⟨ol, he⟩, ⟨oi, gi, _, di⟩, _⟩ := st
    have two : p ∈ (d, o) :: ledOf es ∨ p ∈ rest := by
      rcases List.mem_cons.mp hp with rfl | hp
      · exact .inl (.head _)
      · exact (List.mem_append.mp hp).imp (.tail _) id
    rcases two with hp | hp
    · rcases List.mem_cons.mp hq with q | q
      · exact tab_off T (cut N) he rfl p hp q
      · exact tab_off T (cut N) gi di p hp (List.mem_singleton.mp q)
    · rcases List.mem_cons.mp hq with q | q
      · have g := hrI p hp
        rw [q] at g
        exact Nat.lt_irrefl _ (Nat.lt_trans (Nat.lt_succ_self it) g)
      · have g := hrI p hp
        rw [List.mem_singleton.mp q] at g
        exact Nat.lt_irrefl _ g
  show LoopE prog w A env xi pi xc pc x1 pt body Q E (.ref (it + 1)) { s with heap := h1 }
  unfold LoopE
  refine codeAny_forLoop_any
    (fun j s' => ∃ h' tk m' o es i, s' = { s with heap := h', toks := tk } ∧ ((∃ ol, IsEnum h' (it + 1) it ((i : Nat) : Int) ol) ∧ h'.IsListIter it l i ∧ h'.IsList l vs.toArray) ∧ Fr h0 env.locals h' m' ∧ News h0 env.locals h' ((d, o) :: (ledOf es ++ rest)) ∧ IsTab prog w o es ∧
      (∀ z, z ≠ xc → (xi :: stored).contains z = false → m' z = m0 z) ∧ P (ns.take i) es ∧ i ≤ ns.length ∧ j = ns.length + 1 - i) ?_ (ns.length + 1) ?_
  · rintro j s' ⟨H, tk, m1, o, es, i, rfl, hst, F1, N1, T1, hm1, hP1, hi1, rfl⟩
    have next : ∀ h2 : Heap, (∀ b ob, b ∉ [it + 1, it] → H.get? b = some ob → h2.get? b = some ob) → Fr h0 env.locals h2 m1 ∧ News h0 env.locals h2 ((d, o) :: (ledOf es ++ rest)) := fun h2 hk =>
      ⟨⟨F1.ns.at' fun ob e => hk _ ob hLw e, fun b ob e => hk b ob (old b ob e) (F1.keep b ob e), F1.above⟩, fun p hp => ⟨hk _ _ (off T1 N1 hst p hp) (N1 p hp).1, (N1 p hp).2⟩⟩
    by_cases hlt2 : i < ns.length
    · refine W.item i _ _ _ (by rw [sz]; exact hlt2) hst fun Tp vals h2 tk2 hPt _ hTp hMid hk2 => ?_
      obtain ⟨tI, v1, hv1, rfl⟩ := hPt
      refine W.go _ x1 pt i Tp _ _ _ hMid fun h3 hst3 hk3 => ?_
      have ht3 : h3.IsTuple Tp #[.int i tI, v1] := hTp.at fun ob e => hk3 Tp ob (W.apart i Tp h2 hMid) e
      refine wpAny_assign_Tuple hh ht3 rfl rfl fun h4 hx4 => ?_
      replace hx4 : Heap.ExtBut h3.objs.size h3 h4 := hx4
      have up4 : ∀ b ob, h3.get? b = some ob → h4.get? b = some ob := fun b ob e => hx4 b ob (Nat.ne_of_lt (Heap.lt_size e)) e
      obtain ⟨F4, N4⟩ := next h4 fun b ob hb e => up4 b ob (hk3 b ob hb (hk2 b ob hb e))
      show wpAny _ A (do holding [v1] (assign (.Name xi pi) env (.int i tI)); do holding [] (assign (.Name xc pc) env v1); pure ()) _ _ _
      refine wpAny_bind (wpAny_holding (wpAny_assign_Name (wpAny_storeName_local hxi F4.ns (fun h5 hn5 hs5 => ?_) hsc)))
      replace hs5 : Heap.SameBut env.locals h4 h5 := hs5
      have F5 := F4.set hn5 hs5
      refine wpAny_bind (wpAny_holding (wpAny_assign_Name (wpAny_storeName_local hxc F5.ns (fun h6 hn6 hs6 => wpAny_pure ?_) hsc)))
      replace hs6 : Heap.SameBut env.locals h5 h6 := hs6
      have F6 := F5.set hn6 hs6
      have N6 : News h0 env.locals h6 ((d, o) :: (ledOf es ++ rest)) := (N4.set hs5).set hs6
      have up6 : ∀ b ob, b ≠ env.locals → h4.get? b = some ob → h6.get? b = some ob := fun b ob hb e => hs6.extBut b ob hb (hs5.extBut b ob hb e)
      have hst6 : ((∃ ol, IsEnum h6 (it + 1) it (((i + 1 : Nat)) : Int) ol) ∧ h6.IsListIter it l (i + 1) ∧ h6.IsList l vs.toArray) := W.frame _ _ _ hst3 fun b hb ob e => up6 b ob (fun q => hLf (q ▸ hb)) (up4 b ob e)
      obtain ⟨t1, ev⟩ := item_at hi hlt2 hv1
      subst ev
      obtain ⟨hs, e⟩ := take_split ns hlt2
      have hlen : (ns.take i).length = i := by rw [List.length_take]; omega
      have N7 : News h0 env.locals h6 ((d, o) :: (ledOf es ++ (rest ++ ownOf h0 [it + 1, it, l] h6))) := by
        intro p hp
        rcases List.mem_cons.mp hp with rfl | hp
        · exact N6 _ (.head _)
        · rcases List.mem_append.mp hp with hp | hp
          · exact N6 p (.tail _ (List.mem_append_left _ hp))
          · rcases List.mem_append.mp hp with hp | hp
            · exact N6 p (.tail _ (List.mem_append_right _ hp))
            · exact news_ownOf hLf p hp
      have nd : ∀ p ∈ rest ++ ownOf h0 [it + 1, it, l] h6, p.1 ≠ d := by
        intro p hp q
        rcases List.mem_append.mp hp with hp | hp
        · exact nr p hp q
        have hf := ownOf_sub p hp
        have nb := (news_ownOf (h := h6) hLf p hp).2.2
        rw [q] at hf
        rcases List.mem_cons.mp hf with r | r
        · exact Nat.ne_of_lt (Nat.lt_succ_of_lt hd_lt) r
        · rcases List.mem_cons.mp r with r | r
          · exact Nat.ne_of_lt hd_lt r
          · obtain ⟨ol, gl, _⟩ := id hl
            rw [q, List.mem_singleton.mp r, gl] at nb
            cases nb
      refine wpAny_passesOwn hE (wpAny_mono (turn (ns.take i) (ns.drop (i + 1)) ns[i] (i : Int) t1 tI m1 o es h6 _ (ownOf h0 [it + 1, it, l] h6) e (by rw [hlen]) (List.getElem_mem ..) T1 hP1 nd (fr_two hm1 F6) N7) (fun f s3 h3 => ?_) fun _ _ e => e)
      have fin : ∀ tk6, TabEnd prog w h0 env.locals d xc (xi :: stored) m0 (P (ns.take i ++ [ns[i]])) (rest ++ ownOf h0 [it + 1, it, l] h6) { s with heap := h6, toks := tk6 } s3 → ∃ j, j < ns.length + 1 - i ∧ ∃ h' tk m' o es i, s3 = { s with heap := h', toks := tk } ∧
          ((∃ ol, IsEnum h' (it + 1) it ((i : Nat) : Int) ol) ∧ h'.IsListIter it l i ∧ h'.IsList l vs.toArray) ∧ Fr h0 env.locals h' m' ∧ News h0 env.locals h' ((d, o) :: (ledOf es ++ rest)) ∧ IsTab prog w o es ∧ (∀ z, z ≠ xc → (xi :: stored).contains z = false → m' z = m0 z) ∧ P (ns.take i) es ∧ i ≤ ns.length ∧ j = ns.length + 1 - i := by
        rintro tk6 ⟨o9, es9, h9, tk9, m9, news9, rfl, F9, N9, md9, mk9, mo9, T9, hr9, hp9⟩
        refine ⟨ns.length + 1 - (i + 1), by omega, h9, tk9, m9, o9, es9, i + 1, rfl, ?_, F9, ?_, T9, hr9, by rw [hs]; exact hp9, hlt2, rfl⟩
        · refine W.frame _ _ _ hst6 fun b hb ob g => ?_
          cases hn : h0.get? b with
          | some o0 =>
            have q := F6.keep b o0 hn
            rw [g] at q
            rw [Option.some.inj q]
            exact F9.keep b o0 hn
          | none => exact (N9 _ (mo9 _ (List.mem_append_right _ (mem_ownOf hb hn g)))).1
        · intro p hp
          rcases List.mem_cons.mp hp with rfl | hp
          · exact N9 _ md9
          · rcases List.mem_append.mp hp with hp | hp
            · exact N9 p (mk9 p hp)
            · exact N9 p (mo9 p (List.mem_append_left _ hp))
      cases f with
      | ret v => exact h3
      | brk => exact h3
      | next => exact fin _ h3
      | cont => exact fin _ h3
    · obtain rfl : i = ns.length := by omega
      refine W.done _ _ _ (sz ▸ hst) fun h2 tk2 hk2 => wpAny_execs_nil ?_
      obtain ⟨F2, N2⟩ := next h2 hk2
      rw [List.take_length] at hP1
      exact done m1 o es h2 tk2 T1 hP1 (fr_out hm1 F2) N2
  · refine ⟨h1, s.toks, m0, o, es, 0, rfl, ⟨⟨_, hE1⟩, hI1, hl1.at fun ob e => hk1 _ ob e⟩, ⟨F.ns.at' fun ob e => hk1 _ ob e, fun b ob e => hk1 b ob (F.keep b ob e), F.above⟩, fun p hp => ?_, T, fun _ _ _ => rfl, by simpa using hP, Nat.zero_le _, rfl⟩
    rcases List.mem_cons.mp hp with rfl | hp
    · exact ⟨hk1 _ _ (N _ md).1, (N _ md).2⟩
    · rcases List.mem_append.mp hp with hp | hp
      · exact ⟨hk1 _ _ (N _ (mk p hp)).1, (N _ (mk p hp)).2⟩
      · exact ⟨hk1 _ _ (N _ (mr p hp)).1, (N _ (mr p hp)).2⟩
end
end RS

open PySem PySem.W PySem.Calls PyProof.Rows PyProof.V PySem.Spec
namespace RS
section
variable {prog : Program} {w : World} {A : Around} {E : Value → Shared → Prop} {s : Shared} {env : Env} {h0 : Heap} {L d : Addr} {Q : Flow → Shared → Prop} {body : List Stmt}
/-- for key in list(least): the keys that there were, one by one -/
theorem keys_loop {l : Addr} {nn : Nat} {o : Obj} {es es0 : List Ent} {m0 : Str → Option Value} {news : List (Addr × Obj)} {x : Str} (stored : List Str) (rest : List (Addr × Obj)) (P : Nat → List Ent → Prop)
    (eL : env.locals = L) (hh : A.handled = none) (F : Fr h0 L s.heap m0) (N : News h0 L s.heap news) (ml : (l, listOf (es0.map fun e => Value.ref e.a).toArray nn) ∈ news) (md : (d, o) ∈ news) (mk : ∀ p ∈ ledOf es, p ∈ news) (mr : ∀ p ∈ rest, p ∈ news) (nr : ∀ p ∈ rest, p.1 ≠ d)
    (T : IsTab prog w o es) (hP : P 0 es) (hsub : ∀ i es, P i es → ∀ e ∈ es0, e ∈ es)
    (turn : ∀ (i : Nat) (e : Ent) (u : Str → Option Value) (o : Obj) (es : List Ent) h tk own, es0[i]? = some e → IsTab prog w o es → P i es → (∀ p ∈ rest ++ own, p.1 ≠ d) →
      Fr h0 L h (fun z => if z = x then some (.ref e.a) else if stored.contains z then u z else m0 z) → News h0 L h ((e.a, pairObj e.c e.tc e.r e.tr) :: (d, o) :: (ledOf es ++ (rest ++ own))) →
      wpAny (model prog w) A (execs body env) (TabPost prog w h0 L d x stored m0 (P (i + 1)) (rest ++ own) { s with heap := h, toks := tk } Q) E { s with heap := h, toks := tk })
    (done : ∀ (u : Str → Option Value) (o : Obj) (es : List Ent) h tk, IsTab prog w o es → P es0.length es → Fr h0 L h (fun z => if z = x then u z else if stored.contains z then u z else m0 z) → News h0 L h ((d, o) :: (ledOf es ++ rest)) → Q .next { s with heap := h, toks := tk }) :
    wpAny (model prog w) A (pyIter (.ref l)) (fun it s2 => LoopAtV prog w A h0 env x body Q E it s2) E s := by
  subst eL
  have hl : s.heap.IsList l (es0.map fun e => Value.ref e.a).toArray := ⟨_, (N _ ml).1, rfl, nn, rfl⟩
  have hlL : l ≠ env.locals := (N _ ml).2.1
  have hlI : l < s.heap.objs.size := Heap.lt_size (N _ ml).1
  have hld : l ≠ d := by
    intro q
    have g1 : s.heap.get? l = some (listOf (es0.map fun e => Value.ref e.a).toArray nn) := (N _ ml).1
    have g2 : s.heap.get? d = some o := (N _ md).1
    rw [q, g2] at g1
    exact T.noseq _ _ (by rw [Option.some.inj g1])
  have hdI : d < s.heap.objs.size := Heap.lt_size (N _ md).1
  have hrI : ∀ p ∈ rest, p.1 < s.heap.objs.size := fun p hp => Heap.lt_size (N _ (mr p hp)).1
  have ord : ∀ {h : Heap} {o : Obj} {es : List Ent}, News h0 env.locals h ((d, o) :: ledOf es) → (∀ p ∈ rest, h.get? p.1 = some p.2 ∧ p.1 ≠ env.locals ∧ h0.get? p.1 = none) → News h0 env.locals h ((d, o) :: (ledOf es ++ rest)) := by
    intro h o es N1 N2 p hp
    rcases List.mem_cons.mp hp with rfl | hp
    · exact N1 _ (.head _)
    · rcases List.mem_append.mp hp with hp | hp
      · exact N1 p (.tail _ hp)
      · exact N2 p hp
  apply wpAny_pyIter_list hl
  have sz : (es0.map fun (e : Ent) => Value.ref e.a).toArray.size = es0.length := by simp
  have walk := Walks.list (prog := prog) (w := w) hh s.heap.objs.size l (Nat.ne_of_lt hlI) (es0.map fun (e : Ent) => Value.ref e.a).toArray
  rw [sz] at walk
  refine ⟨_, _, _, es0.length, _, _, m0, (d, o) :: (ledOf es ++ rest), (fun i m nx => ∃ o es, nx = (d, o) :: (ledOf es ++ rest) ∧ IsTab prog w o es ∧ (∀ z, z ≠ x → stored.contains z = false → m z = m0 z) ∧ P i es), rfl, walk, ?_, ?_, ?_, ⟨⟨_, Heap.get?_push_size _ rfl, rfl, rfl⟩, hl.at fun o e => Heap.get?_push_of_some _ e⟩, F.push _, ?_, ⟨o, es, rfl, T, fun _ _ _ => rfl, hP⟩, ?_, ?_⟩
  · intro inFp
    rcases List.mem_cons.mp inFp with q | q
    · exact Nat.lt_irrefl _ (Nat.lt_of_lt_of_eq F.ns.lt q.symm)
    · exact hlL (List.mem_singleton.mp q).symm
  · intro b hb
    rw [List.mem_singleton.mp hb]
    exact next_is_new F
  · intro p hp hI
    have q := List.mem_singleton.mp hI
    have g : p.1 < s.heap.objs.size := by
      rcases List.mem_cons.mp hp with rfl | hp
      · exact hdI
      · rcases List.mem_append.mp hp with hp | hp
        · exact Heap.lt_size (N _ (mk p hp)).1
        · exact hrI p hp
    exact Nat.lt_irrefl _ (q ▸ g)
  · refine ord (fun p hp => ?_) (fun p hp => ⟨Heap.get?_push_of_some _ (N _ (mr p hp)).1, (N _ (mr p hp)).2⟩)
    rcases List.mem_cons.mp hp with rfl | hp
    · exact ⟨Heap.get?_push_of_some _ (N _ md).1, (N _ md).2⟩
    · exact ⟨Heap.get?_push_of_some _ (N _ (mk p hp)).1, (N _ (mk p hp)).2⟩
  · rintro i v m1 news1 s1 own ⟨h1, tk1, rfl⟩ hin hv ⟨o1, es1, rfl, T1, hm1, hP1⟩ hoff hown hget hfp hst F1 N1
    obtain ⟨e, he⟩ : ∃ e, es0[i]? = some e := ⟨es0[i], List.getElem?_eq_getElem hin⟩
    have ev : v = .ref e.a := by
      have hv2 : (es0.map fun e => Value.ref e.a).toArray[i]? = some v := hv
      rw [List.getElem?_toArray, List.getElem?_map, he] at hv2
      exact (Option.some.inj hv2).symm
    subst ev
    have hin1 : e ∈ es1 := hsub i es1 hP1 e (List.mem_of_getElem? he)
    obtain ⟨oI, gI, _, dI⟩ := hst.1
    have mI : (s.heap.objs.size, oI) ∈ own := hfp _ (.head _) (next_is_new F) oI gI
    have nown : ∀ p ∈ rest ++ own, p.1 ≠ d := by
      intro p hp q
      rcases List.mem_append.mp hp with hp | hp
      · exact nr p hp q
      · have f := hown p hp
        rw [q] at f
        rcases List.mem_cons.mp f with f | f
        · exact Nat.lt_irrefl _ (f ▸ hdI)
        · exact hld (List.mem_singleton.mp f).symm
    have N2 : News h0 env.locals h1 ((e.a, pairObj e.c e.tc e.r e.tr) :: (d, o1) :: (ledOf es1 ++ (rest ++ own))) := by
      intro p hp
      rcases List.mem_cons.mp hp with rfl | hp
      · exact N1 _ (List.mem_append_right _ (.tail _ (List.mem_append_left _ (led_mem hin1))))
      · rcases List.mem_cons.mp hp with rfl | hp
        · exact N1 _ (List.mem_append_right _ (.head _))
        · rcases List.mem_append.mp hp with hp | hp
          · exact N1 _ (List.mem_append_right _ (.tail _ (List.mem_append_left _ hp)))
          · rcases List.mem_append.mp hp with hp | hp
            · exact N1 _ (List.mem_append_right _ (.tail _ (List.mem_append_right _ hp)))
            · exact N1 _ (List.mem_append_left _ hp)
    refine wpAny_mono (turn i e m1 o1 es1 h1 tk1 own he T1 hP1 nown (fr_in hm1 F1) N2) (fun f s2 p => ?_) fun _ _ e => e
    have fin : TabEnd prog w h0 env.locals d x stored m0 (P (i + 1)) (rest ++ own) { s with heap := h1, toks := tk1 } s2 → LoopStepU h0 env.locals [s.heap.objs.size] own (fun m nx => ∃ o es, nx = (d, o) :: (ledOf es ++ rest) ∧ IsTab prog w o es ∧ (∀ z, z ≠ x → stored.contains z = false → m z = m0 z) ∧ P (i + 1) es) { s with heap := h1, toks := tk1 } .next s2 := by
      rintro ⟨o9, es9, h9, tk9, m9, news9, rfl, F9, N9, md9, mk9, mo9, T9, hr9, hp9⟩
      have NT : News h0 env.locals h9 ((d, o9) :: ledOf es9) := by
        intro p hp
        rcases List.mem_cons.mp hp with rfl | hp
        · exact N9 _ md9
        · exact N9 p (mk9 p hp)
      have NA := ord NT (fun p hp => N9 p (mo9 p (List.mem_append_left _ hp)))
      refine ⟨rfl, h9, tk9, m9, (d, o9) :: (ledOf es9 ++ rest), rfl, F9, fun p hp => ?_, fun p hp hq => ?_, ⟨o9, es9, rfl, T9, hr9, hp9⟩⟩
      · rcases List.mem_append.mp hp with hp | hp
        · exact N9 p (mo9 p (List.mem_append_right _ hp))
        · exact NA p hp
      · have q := List.mem_singleton.mp hq
        have gI9 : h9.get? s.heap.objs.size = some oI := (N9 _ (mo9 _ (List.mem_append_right _ mI))).1
        rcases List.mem_cons.mp hp with rfl | hp
        · exact tab_off T9 NT gI9 dI _ (.head _) q
        · rcases List.mem_append.mp hp with hp | hp
          · exact tab_off T9 NT gI9 dI _ (.tail _ hp) q
          · exact Nat.lt_irrefl _ (q ▸ hrI p hp)
    cases f with
    | ret v => exact .ret p
    | brk => exact .brk p
    | next => exact .next (fin p)
    | cont => exact .cont (fin p)
  · rintro h' tk m' news' F' N' _ ⟨o9, es9, rfl, T9, h2, hp9⟩
    exact done m' o9 es9 h' tk T9 hp9 (fr_out h2 F') N'
end
end RS
namespace RS
section
variable {prog : Program} {w : World} {A : Around} {E : Value → Shared → Prop} {s : Shared} {h0 : Heap} {L d : Addr} {m : Str → Option Value} {news : List (Addr × Obj)}
/-- {(c, r): v} -/
theorem tab_made {Q : Value → Shared → Prop} {a : Addr} {o : Obj} {c r v : Int} {tc tr tv : Tok} {rest : List (Addr × Obj)} (hu : A.units < cLine) (F : Fr h0 L s.heap m) (N : News h0 L s.heap ((a, pairObj c tc r tr) :: (d, o) :: rest)) (hd : o.IsDictOf (intKind prog w) []) (nr : ∀ p ∈ rest, ∀ x y, p.2.data ≠ .dict x y)
    (h : ∀ h' tk o', Fr h0 L h' m → News h0 L h' ((d, o') :: (a, pairObj c tc r tr) :: rest) → IsTab prog w o' [⟨c, r, v, a, tc, tr, tv⟩] → Q (.ref d) { s with heap := h', toks := tk }) :
    TupStores prog w A E d Q [(.ref a, .int v tv)] s := by
  obtain ⟨arr, ep, ex, dt, _, hp, _⟩ := hd
  have e0 : arr.toList = [] := List.length_eq_zero_iff.mp hp.length
  have md := N (d, o) (.tail _ (.head _))
  have ma := N (a, pairObj c tc r tr) (.head _)
  have D : s.heap.DictOfH (tupleKind (intKind prog w)) d [] := ⟨o, arr, ep, md.1, ex, dt, e0, fun _ hx => (nomatch hx), List.nodup_nil⟩
  have hne : ∀ p ∈ (a, pairObj c tc r tr) :: rest, p.1 ≠ d := by
    intro p hp e
    have mem : p ∈ (a, pairObj c tc r tr) :: (d, o) :: rest := by
      rcases List.mem_cons.mp hp with rfl | hp
      · exact .head _
      · exact .tail _ (.tail _ hp)
    have g : s.heap.get? p.1 = some p.2 := (N p mem).1
    have g2 : s.heap.get? d = some o := md.1
    rw [e, g2] at g
    rw [Option.some.inj g] at dt
    rcases List.mem_cons.mp hp with rfl | hp
    · cases dt
    · exact nr p hp _ _ dt
  unfold TupStores storeAll
  rw [List.forIn_cons]
  refine wpAny_bind (wpAny_bind (wpAny_dictSet_heap (hsz := Nat.zero_le _) (k := [c, r]) (knd := tupleKind (intKind prog w)) hu (key_at ma.1) D fun h' D' hs => wpAny_pure ?_))
  show wpAny _ _ (forIn [] PUnit.unit _) _ _ _
  rw [List.forIn_nil]
  obtain ⟨o', arr', ep', g', ex', dt', e', _, n'⟩ := D'
  refine wpAny_pure (h h' _ o' (F.change hs md.2.1 md.2.2) (fun p hq => ?_) ⟨ex', ⟨arr', ep', dt', e'⟩, n'⟩)
  rcases List.mem_cons.mp hq with rfl | hq
  · exact ⟨g', md.2⟩
  · have mem : p ∈ (a, pairObj c tc r tr) :: (d, o) :: rest := by
      rcases List.mem_cons.mp hq with rfl | hp
      · exact .head _
      · exact .tail _ (.tail _ hp)
    exact ⟨hs.extBut _ _ (hne p hq) (N p mem).1, (N p mem).2⟩
theorem no_more : ∀ p ∈ ([] : List (Addr × Obj)), ∀ x y, p.2.data ≠ .dict x y := fun _ h => (nomatch h)
theorem one_more {a : Addr} {o : Obj} {v : Option Value} (h : o.data = .cell v) : ∀ p ∈ [(a, o)], ∀ x y, p.2.data ≠ .dict x y := fun p hp x y e => by
  rw [List.mem_singleton.mp hp, h] at e
  cases e
theorem tab_meth {o : Obj} {es : List Ent} {pl : Sem Bool} {Q : Value × List Value → Shared → Prop} (T : IsTab prog w o es) (N : News h0 L s.heap news) (md : (d, o) ∈ news) (h : Q (.builtin "dict.setdefault", [.ref d]) s) :
    wpAny (model prog w) A (getMethod (.ref d) (Str.ofString "setdefault") pl) Q E s :=
  getMethod_builtin ⟨o, (N _ md).1, T.exact.1⟩ PySem.F.plainAttrs_dict PySem.F.slot_dict_setdefault PySem.F.type_dict_setdefault (fun b e => by injection e with e; subst e; exact ⟨o, (N _ md).1, T.exact.2.1⟩) h
end
end RS
namespace RS
theorem led_one {e : Ent} {news : List (Addr × Obj)} (h : (e.a, e.obj) ∈ news) : ∀ p ∈ ledOf [e], p ∈ news := fun p hp => by
  rw [List.mem_singleton.mp hp]
  exact h
end RS
namespace RS
section
variable {prog : Program} {w : World} {A : Around} {E : Value → Shared → Prop} {s : Shared} {env : Env} {h0 : Heap} {L d : Addr} {m : Str → Option Value} {news : List (Addr × Obj)}
/-- least as a cell -/
theorem tab_cell {Q : Unit → Shared → Prop} {x : Str} {cx : Addr} {ox o : Obj} {v0 : Option Value} {v : Value} {es : List Ent} (hk : env.scope.kind = .function) (hx : env.kindOf x = some .cell) (hc : env.cells.lookup x = some cx) (T : IsTab prog w o es) (F : Fr h0 L s.heap m) (N : News h0 L s.heap news)
    (md : (d, o) ∈ news) (mk : ∀ p ∈ ledOf es, p ∈ news) (mc : (cx, ox) ∈ news) (hox : ox.data = .cell v0)
    (h : ∀ h' o', o'.data = .cell (some v) → Fr h0 L h' m → News h0 L h' ((cx, o') :: (d, o) :: ledOf es) → Q () { s with heap := h' }) :
    wpAny (model prog w) A (storeName env x v) Q E s := by
  have c := N _ mc
  refine wpAny_storeName_cell hk hx hc ⟨ox, c.1, hox⟩ fun h' hc' hs' => ?_
  obtain ⟨o', g', d'⟩ := hc'
  have hne : ∀ p ∈ (d, o) :: ledOf es, p.1 ≠ cx := by
    intro p hp e
    have mem : p ∈ news := by
      rcases List.mem_cons.mp hp with rfl | hp
      · exact md
      · exact mk p hp
    have g1 : s.heap.get? p.1 = some p.2 := (N p mem).1
    have g2 : s.heap.get? cx = some ox := c.1
    rw [e, g2] at g1
    rw [Option.some.inj g1] at hox
    rcases List.mem_cons.mp hp with rfl | hp
    · obtain ⟨arr, ep, q, _⟩ := T.data
      rw [q] at hox
      cases hox
    · obtain ⟨y, _, rfl⟩ := List.mem_map.mp hp
      cases hox
  refine h h' o' d' (fr_but F hs'.extBut c.2.2 (Ne.symm c.2.1)) fun p hp => ?_
  rcases List.mem_cons.mp hp with rfl | hp
  · exact ⟨g', c.2⟩
  · have mem : p ∈ news := by
      rcases List.mem_cons.mp hp with rfl | hq
      · exact md
      · exact mk p hq
    exact ⟨hs'.extBut _ _ (hne p hp) (N p mem).1, (N p mem).2⟩
end
end RS

open PySem
namespace RS
/-! What the two loops keep, in whole numbers -/
def Ent.tri (e : Ent) : Int × Int × Int := (e.c, e.r, e.m)
def castT (t : Tri) : Int × Int × Int := ((t.1 : Int), (t.2.1 : Int), (t.2.2 : Int))
structure OutP (n : Int) (ns pre : List Int) (es : List Ent) : Prop where
  is : ∃ D : List Tri, Good n.toNat (Sv63Neutral.nats ns) pre.length D ∧ es.map Ent.tri = D.map castT
structure InP (n : Int) (ns : List Int) (p : Nat) (es0 : List Ent) (i : Nat) (es : List Ent) : Prop where
  is : ∃ D0 D : List Tri, Good n.toNat (Sv63Neutral.nats ns) p D0 ∧ es0.map Ent.tri = D0.map castT ∧ Mid n.toNat (Sv63Neutral.nats ns) p D0 i D ∧ es.map Ent.tri = D.map castT
  sub : ∀ e ∈ es0, e ∈ es
  le : i ≤ es0.length
theorem out_start (n : Int) (ns : List Int) {a : PySem.Addr} {tc tr tm : PySem.Tok} : OutP n ns [] [⟨0, 0, 0, a, tc, tr, tm⟩] := ⟨_, good_zero _ _, rfl⟩
theorem in_start {n : Int} {ns pre : List Int} {es : List Ent} (w : OutP n ns pre es) : InP n ns pre.length es 0 es := by
  obtain ⟨D, g, e⟩ := w.is
  exact ⟨⟨D, D, g, e, mid_zero g, e⟩, fun _ h => h, Nat.zero_le _⟩
theorem in_end {n x : Int} {ns pre : List Int} {es0 es : List Ent} (w : InP n ns pre.length es0 es0.length es) : OutP n ns (pre ++ [x]) es := by
  obtain ⟨D0, D, g, e0, md, e⟩ := w.is
  have l : es0.length = D0.length := by
    have := congrArg List.length e0
    simpa using this
  rw [l] at md
  refine ⟨D, ?_, e⟩
  rw [List.length_append]
  exact mid_end g md
theorem tri_at {es : List Ent} {D : List Tri} (e : es.map Ent.tri = D.map castT) {i : Nat} {x : Ent} (h : es[i]? = some x) : ∃ t, D[i]? = some t ∧ x.c = (t.1 : Int) ∧ x.r = (t.2.1 : Int) ∧ x.m = (t.2.2 : Int) := by
  have q := congrArg (fun l => l[i]?) e
  simp only [List.getElem?_map, h, Option.map_some] at q
  cases g : D[i]? with
  | none =>
    rw [g] at q
    cases q
  | some t =>
    rw [g] at q
    have q2 := Option.some.inj q
    refine ⟨t, rfl, ?_, ?_, ?_⟩
    · exact congrArg Prod.fst q2
    · exact congrArg (fun z => z.2.1) q2
    · exact congrArg (fun z => z.2.2) q2
theorem tri_mem {es : List Ent} {D : List Tri} (e : es.map Ent.tri = D.map castT) {c r : Nat} : (∃ x ∈ es, x.c = (c : Int) ∧ x.r = (r : Int)) ↔ (c, r) ∈ D.map keyT := by
  constructor
  · rintro ⟨x, hx, h1, h2⟩
    obtain ⟨i, hi⟩ := List.mem_iff_getElem?.mp hx
    obtain ⟨t, ht, e1, e2, _⟩ := tri_at e hi
    refine List.mem_map.mpr ⟨t, List.mem_of_getElem? ht, ?_⟩
    unfold keyT
    rw [Prod.mk.injEq]
    constructor <;> omega
  · intro h
    obtain ⟨t, ht, hk⟩ := List.mem_map.mp h
    obtain ⟨i, hi⟩ := List.mem_iff_getElem?.mp ht
    have q := congrArg (fun l => l[i]?) e
    simp only [List.getElem?_map, hi, Option.map_some] at q
    cases g : es[i]? with
    | none =>
      rw [g] at q
      cases q
    | some x =>
      obtain ⟨t2, ht2, e1, e2, _⟩ := tri_at e g
      rw [hi] at ht2
      cases ht2
      have k1 : t.1 = c := congrArg Prod.fst hk
      have k2 : t.2.1 = r := congrArg Prod.snd hk
      exact ⟨x, List.mem_of_getElem? g, by omega, by omega⟩
theorem nats_at {ns pre post : List Int} {x : Int} (h : ns = pre ++ x :: post) : (Sv63Neutral.nats ns).getD pre.length 0 = x.toNat := by
  subst h
  unfold Sv63Neutral.nats
  simp
theorem in_turn {n x i : Int} {ns pre post : List Int} {es0 es es' : List Ent} {k : Nat} {e : Ent} (h1 : 1 ≤ n) (hx : 0 ≤ x) (hi : i = (pre.length : Int)) (hns : ns = pre ++ x :: post) (w : InP n ns pre.length es0 k es) (he : es0[k]? = some e)
    (hp : Put es (e.c + 1) ((e.r + x).fmod n) (Builtin.bitOr e.m (1 * 2 ^ i.toNat)) es') : InP n ns pre.length es0 (k + 1) es' := by
  obtain ⟨D0, D, g, e0, md, eD⟩ := w.is
  obtain ⟨t, ht, c1, c2, c3⟩ := tri_at e0 he
  obtain ⟨N, rfl⟩ := Int.eq_ofNat_of_zero_le (show 0 ≤ n by omega)
  obtain ⟨X, rfl⟩ := Int.eq_ofNat_of_zero_le hx
  have hX := nats_at hns
  rw [Int.toNat_natCast] at hX
  have k1 : e.c + 1 = ((t.1 + 1 : Nat) : Int) := by omega
  have k2 : (e.r + (X : Int)).fmod (N : Int) = (((t.2.1 + (Sv63Neutral.nats ns).getD pre.length 0) % N : Nat) : Int) := by
    rw [hX, c2, Int.fmod_eq_emod_of_nonneg _ (by omega)]
    simp
  have k3 : Builtin.bitOr e.m (1 * 2 ^ i.toNat) = ((t.2.2 ||| 2 ^ pre.length : Nat) : Int) := by
    rw [c3, hi, Int.toNat_natCast, Int.one_mul, pow_nat, or_nat]
  have kl : k < es0.length := (List.getElem?_eq_some_iff.mp he).1
  rw [k1, k2, k3] at hp
  rw [Int.toNat_natCast] at g md
  rcases hp with ⟨h, rfl⟩ | ⟨h, a, tc, tr, tm, rfl⟩
  · refine ⟨⟨D0, D, by rw [Int.toNat_natCast]; exact g, e0, by rw [Int.toNat_natCast]; exact mid_old md ht ((tri_mem eD).mp h), eD⟩, w.sub, kl⟩
  · have ab : (t.1 + 1, (t.2.1 + (Sv63Neutral.nats ns).getD pre.length 0) % N) ∉ D.map keyT := by
      intro q
      obtain ⟨y, hy, q1, q2⟩ := (tri_mem eD).mpr q
      exact h y hy ⟨q1, q2⟩
    refine ⟨⟨D0, _, by rw [Int.toNat_natCast]; exact g, e0, by rw [Int.toNat_natCast]; exact mid_new g md ht ab, ?_⟩, fun y hy => List.mem_append_left _ (w.sub y hy), kl⟩
    rw [List.map_append, List.map_append, eD]
    rfl
theorem out_len {n : Int} {ns pre : List Int} {es : List Ent} (w : OutP n ns pre es) (h : pre.length ≤ 24) : es.length ≤ 16777216 := by
  obtain ⟨D, g, e⟩ := w.is
  have l : es.length = D.length := by
    have := congrArg List.length e
    simpa using this
  have gl := g.len
  have p : 2 ^ pre.length ≤ 2 ^ 24 := Nat.pow_le_pow_right (by decide) h
  have e2 : 2 ^ 24 = 16777216 := by decide
  omega
theorem in_len {n : Int} {ns : List Int} {p k : Nat} {es0 es : List Ent} (w : InP n ns p es0 k es) (h : p < 24) : es.length ≤ 16777216 := by
  obtain ⟨D0, D, g, e0, md, e⟩ := w.is
  have l : es.length = D.length := by
    have := congrArg List.length e
    simpa using this
  have l0 : es0.length = D0.length := by
    have := congrArg List.length e0
    simpa using this
  have gl := g.len
  obtain ⟨X, q, lx, _⟩ := md.ext
  have l2 := congrArg List.length q
  rw [List.length_append] at l2
  have le := w.le
  have pp : 2 ^ (p + 1) ≤ 2 ^ 24 := Nat.pow_le_pow_right (by decide) h
  have ps : 2 ^ (p + 1) = 2 ^ p + 2 ^ p := by rw [Nat.pow_succ]; omega
  have e2 : 2 ^ 24 = 16777216 := by decide
  omega
theorem in_has {n : Int} {ns : List Int} {p k : Nat} {es0 es : List Ent} {e : Ent} (w : InP n ns p es0 k es) (he : es0[k]? = some e) : ∃ x ∈ es, x.c = e.c ∧ x.r = e.r := ⟨e, w.sub e (List.mem_of_getElem? he), rfl, rfl⟩
theorem enum_lt {ns pre post : List Int} {x i : Int} (h : ns = pre ++ x :: post) (hi : i = (pre.length : Int)) : 0 ≤ i ∧ i < (ns.length : Int) ∧ pre.length < ns.length := by
  have l := congrArg List.length h
  rw [List.length_append, List.length_cons] at l
  omega
end RS
namespace RS
theorem same_m {es : List Ent} {D : List Tri} (eD : es.map Ent.tri = D.map castT) (hn : (D.map keyT).Nodup) {e f : Ent} (he : e ∈ es) (hf : f ∈ es) (hc : e.c = f.c) (hr : e.r = f.r) : e.m = f.m := by
  obtain ⟨i, hi⟩ := List.mem_iff_getElem?.mp he
  obtain ⟨j, hj⟩ := List.mem_iff_getElem?.mp hf
  obtain ⟨t, ht, a1, a2, a3⟩ := tri_at eD hi
  obtain ⟨u, hu, b1, b2, b3⟩ := tri_at eD hj
  have k : keyT t = keyT u := by
    unfold keyT
    rw [Prod.mk.injEq]
    constructor <;> omega
  have gi : (D.map keyT)[i]? = some (keyT t) := by rw [List.getElem?_map, ht]; rfl
  have gj : (D.map keyT)[j]? = some (keyT t) := by rw [List.getElem?_map, hu, k]; rfl
  have ij : i = j := (List.getElem?_inj (List.getElem?_eq_some_iff.mp gi).1 hn).mp (gi.trans gj.symm)
  subst ij
  rw [hi] at hj
  cases hj
  rfl
theorem in_turn2 {n x i : Int} {ns pre post : List Int} {es0 es es' : List Ent} {k : Nat} {e f : Ent} (h1 : 1 ≤ n) (hx : 0 ≤ x) (hi : i = (pre.length : Int)) (hns : ns = pre ++ x :: post) (w : InP n ns pre.length es0 k es) (he : es0[k]? = some e) (hf : f ∈ es) (hc : f.c = e.c) (hr : f.r = e.r)
    (hp : Put es (e.c + 1) ((e.r + x).fmod n) (Builtin.bitOr f.m (1 * 2 ^ i.toNat)) es') : InP n ns pre.length es0 (k + 1) es' := by
  obtain ⟨D0, D, g, e0, md, eD⟩ := w.is
  have q := same_m eD md.nodup hf (w.sub e (List.mem_of_getElem? he)) hc hr
  rw [q] at hp
  exact in_turn h1 hx hi hns w he hp
theorem nats_len (ns : List Int) : (Sv63Neutral.nats ns).length = ns.length := List.length_map ..
theorem row_no {n : Int} {ns : List Int} (h : n < 1 ∨ 64 < n ∨ (ns.length : Int) < 1 ∨ 24 < (ns.length : Int)) : Sv63.rowOk n (ns.length : Int) = false := by
  cases q : Sv63.rowOk n (ns.length : Int) with
  | false => rfl
  | true =>
    exfalso
    unfold Sv63.rowOk Sv63.within at q
    simp only [Bool.and_eq_true, decide_eq_true_eq] at q
    omega
theorem row_yes {n : Int} {ns : List Int} (h1 : 1 ≤ n) (h2 : n ≤ 64) (h3 : 1 ≤ (ns.length : Int)) (h4 : (ns.length : Int) ≤ 24) : Sv63.rowOk n (ns.length : Int) = true := by
  unfold Sv63.rowOk Sv63.within
  simp only [Bool.and_eq_true, decide_eq_true_eq]
  exact ⟨⟨h1, h2⟩, h3, h4⟩
theorem just_def (n : Int) (ns : List Int) : PySv63.just n ns = Sv63Neutral.on (Sv63.rowOk n (ns.length : Int)) true fun _ => Sv63Neutral.found (Sv63Neutral.nats ns) (Sv63Neutral.someOf n.toNat (Sv63Neutral.nats ns) true) := rfl
theorem just_bad {n : Int} {ns : List Int} (h : n < 1 ∨ 64 < n ∨ (ns.length : Int) < 1 ∨ 24 < (ns.length : Int)) : [-2] = PySv63.just n ns := by
  rw [just_def, row_no h]
  rfl
theorem just_no {n : Int} {ns : List Int} {es : List Ent} (w : OutP n ns ns es) (h : ∀ e ∈ es, ¬ (e.c = n ∧ e.r = 0)) (h1 : 1 ≤ n) (h2 : n ≤ 64) (h3 : 1 ≤ (ns.length : Int)) (h4 : (ns.length : Int) ≤ 24) : [-5] = PySv63.just n ns := by
  obtain ⟨D, g, e⟩ := w.is
  rw [← nats_len] at g
  obtain ⟨N, rfl⟩ := Int.eq_ofNat_of_zero_le (show 0 ≤ n by omega)
  have q := just_none g (fun m => by
    obtain ⟨x, hx, c1, c2⟩ := (tri_mem e).mpr m
    exact h x hx ⟨by rw [c1]; simp, c2⟩)
  rw [just_def, row_yes h1 h2 h3 h4, q]
  rfl
theorem just_yes {n : Int} {ns : List Int} {es : List Ent} {x : Ent} (w : OutP n ns ns es) (hx : x ∈ es) (hc : x.c = n) (hr : x.r = 0) (h1 : 1 ≤ n) (h2 : n ≤ 64) (h3 : 1 ≤ (ns.length : Int)) (h4 : (ns.length : Int) ≤ 24) : [manyI (ns.length : Int) x.m, x.m] = PySv63.just n ns := by
  obtain ⟨D, g, e⟩ := w.is
  rw [← nats_len] at g
  obtain ⟨N, rfl⟩ := Int.eq_ofNat_of_zero_le (show 0 ≤ n by omega)
  obtain ⟨i, hi⟩ := List.mem_iff_getElem?.mp hx
  obtain ⟨t, ht, c1, c2, c3⟩ := tri_at e hi
  have q := just_some (t := t) (by omega) g (List.mem_of_getElem? ht) (by
    unfold keyT
    rw [Prod.mk.injEq]
    constructor
    · rw [Int.toNat_natCast]; omega
    · omega)
  rw [just_def, row_yes h1 h2 h3 h4, q, c3, manyI_nat, ← nats_len]
  rfl
end RS
namespace RS
theorem out_same {n : Int} {ns pre : List Int} {es : List Ent} {e f : Ent} (w : OutP n ns pre es) (he : e ∈ es) (hf : f ∈ es) (hc : e.c = f.c) (hr : e.r = f.r) : e.m = f.m := by
  obtain ⟨D, g, q⟩ := w.is
  exact same_m q g.nodup he hf hc hr
end RS

open PySem PySem.W PyProof.Rows
namespace RS
abbrev OutJ {n : Int} {ns : List Int} (_ : PySem.Challenge.rw_remaindersums_s08_just.pre [WData.int n, ofPy (PyData.list (ns.map PyData.int))] = true) (pre : List Int) (es : List Ent) : Prop := OutP n ns pre es
abbrev InJ {n : Int} {ns : List Int} (_ : PySem.Challenge.rw_remaindersums_s08_just.pre [WData.int n, ofPy (PyData.list (ns.map PyData.int))] = true) (p : Nat) (es0 : List Ent) (i : Nat) (es : List Ent) : Prop := InP n ns p es0 i es
theorem row_pos {n x : Int} {ns : List Int} (h : PySem.Challenge.rw_remaindersums_s08_just.pre [WData.int n, ofPy (PyData.list (ns.map PyData.int))] = true) (hx : x ∈ ns) : 0 ≤ x := by
  obtain ⟨h1, h2⟩ := dec_cons (os_pre_isSome h)
  obtain ⟨e2, least, most, items⟩ := os_dec_ints h2
  exact (items x hx).1
theorem end_just {n : Int} {ns l : List Int} (h : l = PySv63.just n ns) : l = Codec.app PySem.Challenge.rw_remaindersums_s08_just.args PySem.Challenge.rw_remaindersums_s08_just.f (n, ns, ()) := h
end RS
local macro_rules | `(tactic| walk_at "TabPost") => `(tactic| (dsimp only [RS.TabPost]))
local macro_rules | `(tactic| walk_at "TabEnd") => `(tactic| ((rename News _ _ _ _ => nE'); (refine RS.tab_end (by assumption) nE' (by kcf_m) (by kcf_all) (by kcf_all) (by assumption) ?rs_r ?rs_p); (case rs_r => (intro z h1 h2; (simp only [List.contains_cons, List.contains_nil, Bool.or_false, Bool.or_eq_false_iff, beq_eq_false_iff_ne, ne_eq] at h2); (simp [h1, h2]; done))); (case rs_p => first | exact RS.in_turn2 (by omega) (RS.row_pos (by assumption) (by assumption)) (by assumption) (by assumption) (by assumption) (by assumption) (by assumption) (by assumption) (by assumption) (by assumption) | exact RS.in_end (by assumption))))
set_option maxRecDepth 100000 in
set_option maxHeartbeats 8000000 in
theorem PySem.Challenge.cw_remaindersums_s08_just_holds : PySem.Challenge.rw_remaindersums_s08_just.Holds := by
  k_with "TupStores" => (k_here; k_dflt ((refine' RS.tab_made ?rs_u ?rs_F ?rs_N ?rs_e ?rs_r ?_); (case rs_u => units_room1); (case rs_F => k_asm); (case rs_N => k_asm); (case rs_e => assumption); (case rs_r => first | exact RS.no_more | exact RS.one_more (by assumption))); intro h' tk' o' F' N' T')
  k_with "exec For Tuple Call cons nil" => (with_unfolding_all refine' RS.for_enum ?_)
  k_with "call type:enumerate" => ((with_reducible show wpAny _ _ (call (Value.type _) [Value.ref _]) (fun xv s1 => wpAny _ _ (pyIter xv) (fun it s2 => RS.LoopE _ _ _ _ _ _ _ _ _ _ _ _ _ it s2) _ s1) _ _); (rename PyProof.Rows.Fr _ _ _ _ => lF'); (rename PyProof.Rows.News _ _ _ _ => lN'); (with_unfolding_all refine' RS.enum_loop [Str.ofString "key"] _ (RS.OutJ (by assumption)) (by rfl) ?rs_hh ?rs_xi ?rs_xc ?rs_sc (by assumption) (by assumption) lF' lN' (List.Mem.head _) ?rs_mk (fun _ h => List.Mem.tail _ (List.Mem.tail _ h)) ?rs_nr (by assumption) ?rs_p ?_ ?_); (case rs_nr => first | exact RS.no_more | exact RS.one_more (by assumption)); (case rs_hh => with_unfolding_all exact rfl); (case rs_xi => with_unfolding_all exact rfl); (case rs_xc => with_unfolding_all exact rfl); (case rs_sc => with_unfolding_all exact rfl); (case rs_mk => exact RS.led_one (List.Mem.tail _ (List.Mem.head _))); (case rs_p => exact RS.out_start _ _); (all_goals (try clear lF' lN')); rotate_left; (intro kU kO kEs kH kTk kTab kInv kFr kNews); rotate_left; (intro kPre kPost kX kI kT kT2 kU kO kEs kH kTk kOwn kEq kIe kMem kTab kInv kNe kFr kNews); (have kB := RS.enum_lt kEq kIe); (all_goals (try k_fold)))
  k_with "call type:list" => (k_here; k_dflt ((refine' RS.tab_list ?rs_lo ?rs_hh ?rs_T ?rs_F ?rs_N ?rs_d ?rs_z ?_); (case rs_lo => assumption); (case rs_hh => with_unfolding_all exact rfl); (case rs_T => assumption); (case rs_F => k_asm); (case rs_N => k_asm); (case rs_d => k_mem); (case rs_z => exact RS.out_len (by assumption) (by omega))); intro D' c' h' tk' F' N' l1)
  k_with "pyIter ref" => ((with_reducible show wpAny _ _ (pyIter (Value.ref _)) (fun it s₂ => LoopAtV _ _ _ _ _ _ _ _ _ it s₂) _ _); (rename PyProof.Rows.Fr _ _ _ _ => lF'); (rename PyProof.Rows.News _ _ _ _ => lN'); (with_unfolding_all refine' RS.keys_loop [] _ (RS.InJ (by assumption) _ _) (by rfl) ?rs_hh lF' lN' (List.Mem.head _) (List.Mem.tail _ (List.Mem.head _)) ?rs_mk ?rs_mr (by assumption) (by assumption) ?rs_p ?rs_sub ?_ ?_); (case rs_hh => with_unfolding_all exact rfl); (case rs_mk => kcf_all); (case rs_mr => kcf_all); (case rs_p => exact RS.in_start (by assumption)); (case rs_sub => exact fun _ _ h => RS.InP.sub h); (all_goals (try clear lF' lN')); rotate_left; (intro kU kO kEs kH kTk kTab kInv kFr kNews); rotate_left; (intro kIx kE kU kO kEs kH kTk kOwn kAt kTab kInv kNe kFr kNews); (dsimp only [RS.pairObj] at kNews); (all_goals (try k_fold)))
  k_with "getMethod ref" => (k_here; k_dflt ((refine' RS.tab_meth ?rs_T ?rs_N ?rs_d ?_); (case rs_T => assumption); (case rs_N => k_asm); (case rs_d => k_mem)))
  k_with "call builtin:dict.setdefault" => (k_here; k_dflt ((refine' RS.tab_setdef _ ?rs_lo ?rs_T ?rs_u ?rs_F ?rs_N ?rs_d ?rs_mk ?rs_a ?rs_mo ?rs_no ?rs_z ?_); (case rs_lo => assumption); (case rs_no => assumption); (case rs_T => assumption); (case rs_u => units_room); (case rs_F => k_asm); (case rs_N => k_asm); (case rs_d => k_mem); (case rs_mk => kcf_all); (case rs_a => k_mem); (case rs_mo => kcf_all); (case rs_z => exact RS.in_len (by assumption) (by omega))); intro v' t' h' tk' o' es' F' N' T' P')
  k_with "subscriptTail Name Name ref ref" => (k_here; k_dflt ((refine' RS.tab_item ?rs_T ?rs_u ?rs_N ?rs_d ?rs_mk ?rs_a ?rs_in ?_); (case rs_T => assumption); (case rs_u => units_room); (case rs_N => k_asm); (case rs_d => k_mem); (case rs_mk => kcf_all); (case rs_a => k_mem); (case rs_in => exact RS.in_has (by assumption) (by assumption))); intro e' he' hc' hr' tk')
  k_with "compareOp NotIn ref ref" => (k_here; k_dflt ((refine' RS.tab_notin ?rs_lo ?rs_T ?rs_u ?rs_N ?rs_d ?rs_mk ?rs_a ?_ ?_); (case rs_lo => assumption); (case rs_T => assumption); (case rs_u => units_room); (case rs_N => k_asm); (case rs_d => k_mem); (case rs_mk => kcf_all); (case rs_a => k_mem)); (all_goals (intro hin' tk')))
  k_with "subscriptTail Name Tuple ref ref" => (k_here; k_dflt ((refine' RS.tab_item ?rs_T ?rs_u ?rs_N ?rs_d ?rs_mk ?rs_a ?rs_in ?_); (case rs_T => assumption); (case rs_u => units_room); (case rs_N => k_asm); (case rs_d => k_mem); (case rs_mk => kcf_all); (case rs_a => k_mem); (case rs_in => assumption)); intro e' he' hc' hr' tk')
  open_ks with [.int 0, .list []]
  all_goals
    obtain ⟨h1, h2⟩ := RS.dec_cons (os_pre_isSome hpre)
    obtain ⟨e1, lo1, hi1⟩ := RS.dec_int h1
    obtain ⟨e2, least2, most2, items2⟩ := os_dec_ints h2
    refine os_post (RS.dec_join e1 e2) ?_
  all_goals first
    | exact RS.same_one (RS.end_just (RS.just_bad (by omega)))
    | exact RS.same_one (RS.end_just (RS.just_no (by assumption) (by assumption) (by omega) (by omega) (by omega) (by omega)))
    | exact RS.same_two (RS.end_just (RS.just_yes (by assumption) (by assumption) (by assumption) (by assumption) (by omega) (by omega) (by omega) (by omega)))
#print axioms PySem.Challenge.cw_remaindersums_s08_just_holds
