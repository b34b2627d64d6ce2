import PyProof.Rows.All
import KE.OsGo
import PySem.Challenge.RW_remaindersums_s05_step
set_option Elab.async false
namespace RS
open Sv63
theorem setOf_succ (N : Nat) (p : Nat → Bool) : setOf (N + 1) p = setOf N p + (if p N = true then 2 ^ N else 0) := by
  unfold setOf remainders
  rw [List.range_succ, List.map_append, List.sum_append]
  simp
theorem setOf_lt (N : Nat) (p : Nat → Bool) : setOf N p < 2 ^ N := by
  induction N with
  | zero => simp [setOf, remainders]
  | succ N ih =>
    rw [setOf_succ, Nat.pow_succ]
    split <;> omega
theorem bit_high {a N z : Nat} (h : a < 2 ^ N) (hz : N ≤ z) : a.testBit z = false :=
  Nat.testBit_lt_two_pow (Nat.lt_of_lt_of_le h (Nat.pow_le_pow_right (by decide) hz))
theorem setOf_bit (N : Nat) (p : Nat → Bool) (z : Nat) : (setOf N p).testBit z = (decide (z < N) && p z) := by
  induction N with
  | zero => simp [setOf, remainders]
  | succ N ih =>
    rw [setOf_succ]
    by_cases hz : z < N
    · have e : decide (z < N + 1) = decide (z < N) := by simp [hz]; omega
      rw [e, ← ih]
      split
      · rw [Nat.add_comm, Nat.testBit_two_pow_add_gt hz]
      · rw [Nat.add_zero]
    · by_cases hzN : z = N
      · subst hzN
        have f := Nat.testBit_lt_two_pow (setOf_lt z p)
        by_cases hp : p z = true
        · rw [if_pos hp, Nat.add_comm, Nat.testBit_two_pow_add_eq, f, hp]
          simp
        · rw [if_neg hp, Nat.add_zero, f]
          simp [hp]
      · have l : setOf N p + (if p N = true then 2 ^ N else 0) < 2 ^ (N + 1) := by
          rw [← setOf_succ]
          exact setOf_lt _ _
        rw [bit_high l (by omega)]
        have : decide (z < N + 1) = false := by simp; omega
        rw [this, Bool.false_and]
theorem set_ext {N a : Nat} {p : Nat → Bool} (h : a < 2 ^ N) (hb : ∀ z, z < N → a.testBit z = p z) : a = setOf N p := by
  refine Nat.eq_of_testBit_eq fun z => ?_
  rw [setOf_bit]
  by_cases hz : z < N
  · rw [hb z hz]
    simp [hz]
  · rw [bit_high h (by omega)]
    simp [hz]
theorem mod_cases {x N : Nat} (h : x < 2 * N) : x % N = if x < N then x else x - N := by
  split
  · rename_i h1
    exact Nat.mod_eq_of_lt h1
  · rename_i h1
    rw [Nat.mod_eq_sub_mod (by omega)]
    exact Nat.mod_eq_of_lt (by omega)
def movedN (N A h : Nat) : Nat := ((A * 2 ^ h) ||| (A / 2 ^ (N - h))) &&& (2 ^ N - 1)
theorem moved_lt (N A h : Nat) : movedN N A h < 2 ^ N := by
  unfold movedN
  rw [Nat.and_two_pow_sub_one_eq_mod]
  exact Nat.mod_lt _ (Nat.two_pow_pos N)
theorem moved_bit {N A h z : Nat} (hA : A < 2 ^ N) (hh : h < N) (hz : z < N) : (movedN N A h).testBit z = A.testBit (if h ≤ z then z - h else z + N - h) := by
  unfold movedN
  rw [Nat.testBit_and, Nat.testBit_two_pow_sub_one, Nat.testBit_or, ← Nat.shiftLeft_eq, ← Nat.shiftRight_eq_div_pow, Nat.testBit_shiftLeft, Nat.testBit_shiftRight]
  split
  · rename_i h1
    rw [bit_high hA (show N ≤ N - h + z by omega)]
    simp [h1, hz]
  · rename_i h1
    have e : N - h + z = z + N - h := by omega
    rw [e]
    simp [h1, hz]
def addedN (N A B : Nat) : Nat := (List.range N).foldl (fun t h => if B.testBit h = true then t ||| movedN N A h else t) 0
theorem fold_lt {N : Nat} {c : Nat → Bool} {f : Nat → Nat} (hf : ∀ h, f h < 2 ^ N) : ∀ (l : List Nat) (t : Nat), t < 2 ^ N → l.foldl (fun t h => if c h = true then t ||| f h else t) t < 2 ^ N
  | [], t, ht => ht
  | x :: r, t, ht => by
    rw [List.foldl_cons]
    refine fold_lt hf r _ ?_
    split
    · exact Nat.or_lt_two_pow ht (hf x)
    · exact ht
theorem fold_bit {c : Nat → Bool} {f : Nat → Nat} {z : Nat} : ∀ (l : List Nat) (t : Nat), (l.foldl (fun t h => if c h = true then t ||| f h else t) t).testBit z = (t.testBit z || l.any fun h => c h && (f h).testBit z)
  | [], t => by simp
  | x :: r, t => by
    rw [List.foldl_cons, fold_bit r, List.any_cons]
    by_cases h : c x = true
    · rw [if_pos h, Nat.testBit_or, h, Bool.true_and, Bool.or_assoc]
    · rw [if_neg h]
      simp [h]
theorem added_lt (N A B : Nat) : addedN N A B < 2 ^ N := fold_lt (moved_lt N A) _ _ (Nat.two_pow_pos N)
theorem added_eq {N A B : Nat} (hA : A < 2 ^ N) : addedN N A B = sums N A B := by
  refine set_ext (added_lt N A B) fun z hz => ?_
  unfold addedN
  rw [fold_bit, Nat.zero_testBit, Bool.false_or, Bool.eq_iff_iff]
  simp only [remainders, has, List.any_eq_true, List.mem_range, Bool.and_eq_true, beq_iff_eq]
  constructor
  · rintro ⟨h, hh, hB, hm⟩
    rw [moved_bit hA hh hz] at hm
    refine ⟨if h ≤ z then z - h else z + N - h, by split <;> omega, hm, h, hh, hB, ?_⟩
    by_cases c : h ≤ z
    · rw [if_pos c, mod_cases (by omega)]
      split <;> omega
    · rw [if_neg c, mod_cases (by omega)]
      split <;> omega
  · rintro ⟨x, hx, hA', y, hy, hB, hs⟩
    refine ⟨y, hy, hB, ?_⟩
    rw [moved_bit hA hy hz]
    rw [mod_cases (by omega)] at hs
    have e : (if y ≤ z then z - y else z + N - y) = x := by
      split <;> split at hs <;> omega
    rw [e]
    exact hA'
theorem sums_lt (N A B : Nat) : sums N A B < 2 ^ N := setOf_lt _ _
theorem often_lt {N A k : Nat} (hN : 1 ≤ N) : often N A k < 2 ^ N := by
  cases k with
  | zero =>
    show 1 < 2 ^ N
    exact Nat.lt_of_lt_of_le (show 1 < 2 ^ 1 by decide) (Nat.pow_le_pow_right (by decide) hN)
  | succ k => exact sums_lt _ _ _
def oftenN (N A k : Nat) : Nat := (List.range k).foldl (fun t _ => addedN N t A) 1
theorem often_eq {N A : Nat} (hN : 1 ≤ N) : ∀ k, oftenN N A k = often N A k
  | 0 => rfl
  | k + 1 => by
    have e : oftenN N A (k + 1) = addedN N (oftenN N A k) A := by
      unfold oftenN
      rw [List.range_succ, List.foldl_append]
      rfl
    rw [e, often_eq hN k, added_eq (often_lt hN)]
    rfl
theorem many_sum (N A : Nat) : ((List.range N).map fun x => A / 2 ^ x % 2).sum = many N A := by
  unfold many remainders
  induction N with
  | zero => rfl
  | succ N ih =>
    rw [List.range_succ, List.map_append, List.sum_append, ih, List.filter_append, List.length_append]
    have : ([N].map fun x => A / 2 ^ x % 2).sum = ([N].filter fun x => has A x).length := by
      unfold has
      rw [List.map_cons, List.map_nil, List.sum_cons, List.sum_nil, List.filter_cons, Nat.testBit_eq_decide_div_mod_eq]
      by_cases h : A / 2 ^ N % 2 = 1
      · simp [h]
      · have : A / 2 ^ N % 2 = 0 := by omega
        simp [this]
    rw [this]
end RS

namespace RS
open Sv63
/-! What the specification says of two, still, step, free, some and just, bit by bit -/
theorem two_bit (N A z : Nat) : (two N A).testBit z = true ↔ z < N ∧ ∃ x, x < N ∧ A.testBit x = true ∧ ∃ y, y < N ∧ A.testBit y = true ∧ x ≠ y ∧ (x + y) % N = z := by
  unfold two
  rw [setOf_bit]
  simp only [remainders, has, Bool.and_eq_true, decide_eq_true_eq, List.any_eq_true, List.mem_range, bne_iff_ne, beq_iff_eq]
theorem two_lt (N A : Nat) : two N A < 2 ^ N := setOf_lt _ _
theorem bits_lt {N A x : Nat} (h : A < 2 ^ N) (hx : A.testBit x = true) : x < N := by
  refine Nat.lt_of_not_le fun q => ?_
  rw [bit_high h q] at hx
  exact Bool.noConfusion hx
/-- a set moved: the specification's and the program's -/
theorem moved_eq {N A h : Nat} (hA : A < 2 ^ N) (hh : h < N) : movedN N A h = moved N A h := by
  refine set_ext (moved_lt N A h) fun z hz => ?_
  rw [moved_bit hA hh hz, Bool.eq_iff_iff]
  simp only [remainders, has, List.any_eq_true, List.mem_range, Bool.and_eq_true, beq_iff_eq]
  constructor
  · intro hm
    refine ⟨if h ≤ z then z - h else z + N - h, by split <;> omega, hm, ?_⟩
    by_cases c : h ≤ z
    · rw [if_pos c, mod_cases (by omega)]
      split <;> omega
    · rw [if_neg c, mod_cases (by omega)]
      split <;> omega
  · rintro ⟨x, hx, hA', hs⟩
    rw [mod_cases (by omega)] at hs
    have e : (if h ≤ z then z - h else z + N - h) = x := by
      split <;> split at hs <;> omega
    rw [e]
    exact hA'
theorem still_bit {N A h : Nat} (hA : A < 2 ^ N) (hh : h < N) : (still N A).testBit h = decide (movedN N A h = A) := by
  unfold still
  rw [setOf_bit, moved_eq hA hh]
  simp [hh]
  rfl
theorem still_lt (N A : Nat) : still N A < 2 ^ N := setOf_lt _ _
/-- the first of a search over a range -/
theorem find_range {p : Nat → Bool} {m k : Nat} (hk : k < m) (hp : p k = true) (hl : ∀ j, j < k → p j = false) : (List.range m).find? p = some k := by
  rw [List.find?_range_eq_some]
  refine ⟨hp, List.mem_range.mpr hk, fun j hj => ?_⟩
  rw [hl j hj]
  rfl
theorem find_range_none {p : Nat → Bool} {m : Nat} (hl : ∀ j, j < m → p j = false) : (List.range m).find? p = none := by
  rw [List.find?_range_eq_none]
  intro j hj
  rw [hl j hj]
  rfl
/-- the best of a search over a range: the first of the most -/
def bestTo (n : Nat) (P : Nat → Bool) (m : Nat) : Nat := (List.range m).foldl (fun (w s : Nat) => if Sv63.many n w < Sv63.many n s ∧ P s = true then s else w) 0
theorem bestTo_succ (n : Nat) (P : Nat → Bool) (m : Nat) : bestTo n P (m + 1) = if Sv63.many n (bestTo n P m) < Sv63.many n m ∧ P m = true then m else bestTo n P m := by
  unfold bestTo
  rw [List.range_succ, List.foldl_append]
  rfl
theorem free_best (n : Nat) : Sv63Neutral.freeOf n = bestTo n (Sv63Neutral.isFree n) (2 ^ n) := rfl
end RS

namespace RS
open Sv63
theorem one_bit {x y : Nat} : (2 ^ x).testBit y = decide (x = y) := Nat.testBit_two_pow
def twoN (N A : Nat) : Nat := (List.range N).foldl (fun t x => if A.testBit x = true then t ||| movedN N (A ^^^ 2 ^ x) x else t) 0
theorem two_eq {N A : Nat} (hA : A < 2 ^ N) : twoN N A = two N A := by
  refine Nat.eq_of_testBit_eq fun z => ?_
  by_cases hz : z < N
  · unfold twoN
    rw [fold_bit, Nat.zero_testBit, Bool.false_or, Bool.eq_iff_iff, two_bit]
    simp only [List.any_eq_true, List.mem_range, Bool.and_eq_true]
    constructor
    · rintro ⟨h, hh, hB, hm⟩
      have hx : A ^^^ 2 ^ h < 2 ^ N := Nat.xor_lt_two_pow hA (Nat.pow_lt_pow_right (by decide) hh)
      rw [moved_bit hx hh hz, Nat.testBit_xor, one_bit] at hm
      refine ⟨hz, if h ≤ z then z - h else z + N - h, by split <;> omega, ?_, h, hh, hB, ?_, ?_⟩
      · by_cases e : h = (if h ≤ z then z - h else z + N - h)
        · rw [← e]
          exact hB
        · rw [decide_eq_false e, Bool.xor_false] at hm
          exact hm
      · intro e
        rw [e, decide_eq_true rfl, hB] at hm
        exact Bool.noConfusion hm
      · by_cases c : h ≤ z
        · rw [if_pos c, mod_cases (by omega)]
          split <;> omega
        · rw [if_neg c, mod_cases (by omega)]
          split <;> omega
    · rintro ⟨_, x, hx, hA', y, hy, hB, hne, hs⟩
      refine ⟨y, hy, hB, ?_⟩
      have hq : A ^^^ 2 ^ y < 2 ^ N := Nat.xor_lt_two_pow hA (Nat.pow_lt_pow_right (by decide) hy)
      rw [moved_bit hq hy hz, Nat.testBit_xor, one_bit]
      rw [mod_cases (by omega)] at hs
      have e : (if y ≤ z then z - y else z + N - y) = x := by
        split <;> split at hs <;> omega
      rw [e, hA', decide_eq_false (fun q => hne q.symm)]
      rfl
  · rw [bit_high (two_lt N A) (by omega)]
    exact bit_high (fold_lt (f := fun x => movedN N (A ^^^ 2 ^ x) x) (fun h => moved_lt N _ h) _ _ (Nat.two_pow_pos N)) (by omega)
def stillN (N A : Nat) : Nat := (List.range N).foldl (fun t h => if decide (movedN N A h = A) = true then t ||| 2 ^ h else t) 0
theorem fold_lt' {N : Nat} {c : Nat → Bool} {f : Nat → Nat} : ∀ (l : List Nat) (t : Nat), (∀ h ∈ l, f h < 2 ^ N) → t < 2 ^ N → l.foldl (fun t h => if c h = true then t ||| f h else t) t < 2 ^ N
  | [], t, _, ht => ht
  | x :: r, t, hf, ht => by
    rw [List.foldl_cons]
    refine fold_lt' r _ (fun h q => hf h (List.mem_cons_of_mem _ q)) ?_
    split
    · exact Nat.or_lt_two_pow ht (hf x (List.mem_cons_self ..))
    · exact ht
theorem still_eq {N A : Nat} (hA : A < 2 ^ N) : stillN N A = still N A := by
  refine Nat.eq_of_testBit_eq fun z => ?_
  by_cases hz : z < N
  · unfold stillN
    rw [fold_bit, Nat.zero_testBit, Bool.false_or, still_bit hA hz, Bool.eq_iff_iff]
    simp only [List.any_eq_true, List.mem_range, Bool.and_eq_true, one_bit, decide_eq_true_eq]
    constructor
    · rintro ⟨h, hh, hm, rfl⟩
      exact hm
    · intro h
      exact ⟨z, hz, h, rfl⟩
  · rw [bit_high (still_lt N A) (by omega)]
    refine bit_high (fold_lt' (f := fun x => 2 ^ x) _ _ (fun h q => ?_) (Nat.two_pow_pos N)) (show N ≤ z by omega)
    exact Nat.pow_lt_pow_right (by decide) (List.mem_range.mp q)
end RS

namespace RS
open Sv63
/-! Pigeonholes, and a set as the list of its members -/
theorem len_sub : ∀ {l f : List Nat}, l.Nodup → (∀ x ∈ l, x ∈ f) → l.length ≤ f.length
  | [], _, _, _ => Nat.zero_le _
  | x :: r, f, hn, hs => by
    have hx := hs x (List.mem_cons_self ..)
    have hr : ∀ y ∈ r, y ∈ f.erase x := by
      intro y hy
      have ne : y ≠ x := by
        intro e
        subst e
        exact (List.nodup_cons.mp hn).1 hy
      exact (List.mem_erase_of_ne ne).mpr (hs y (List.mem_cons_of_mem _ hy))
    have h := len_sub (List.nodup_cons.mp hn).2 hr
    rw [List.length_erase_of_mem hx] at h
    have p : 0 < f.length := List.length_pos_of_mem hx
    rw [List.length_cons]
    omega
theorem sub_full {l f : List Nat} (hl : l.Nodup) (hs : ∀ x ∈ l, x ∈ f) (hf : f.length ≤ l.length) : ∀ x ∈ f, x ∈ l := by
  intro x hx
  apply Classical.byContradiction
  intro hn
  have h := len_sub (l := x :: l) (f := f) (List.nodup_cons.mpr ⟨hn, hl⟩) (by
    intro y hy
    rcases List.mem_cons.mp hy with e | e
    · rw [e]; exact hx
    · exact hs y e)
  rw [List.length_cons] at h
  omega
theorem nodup_of_len : ∀ {l f : List Nat}, f.Nodup → (∀ x ∈ f, x ∈ l) → l.length ≤ f.length → l.Nodup
  | [], _, _, _, _ => List.nodup_nil
  | x :: r, f, hf, hs, hl => by
    rw [List.length_cons] at hl
    have nx : x ∉ r := by
      intro hx
      have h := len_sub (l := f) (f := r) hf (by
        intro y hy
        rcases List.mem_cons.mp (hs y hy) with e | e
        · rw [e]; exact hx
        · exact e)
      omega
    refine List.nodup_cons.mpr ⟨nx, nodup_of_len (f := f.erase x) (List.Nodup.erase _ hf) ?_ ?_⟩
    · intro y hy
      have hy' := List.mem_of_mem_erase hy
      have ne : y ≠ x := fun e => (List.Nodup.not_mem_erase hf) (e ▸ hy)
      rcases List.mem_cons.mp (hs y hy') with e | e
      · exact absurd e ne
      · exact e
    · rw [List.length_erase]
      split <;> omega
def bits (n s : Nat) : List Nat := (List.range n).filter fun x => s.testBit x
theorem bits_len (n s : Nat) : (bits n s).length = many n s := rfl
theorem bits_nodup (n s : Nat) : (bits n s).Nodup := List.Pairwise.filter _ List.nodup_range
theorem mem_bits {n s x : Nat} : x ∈ bits n s ↔ x < n ∧ s.testBit x = true := by
  unfold bits
  rw [List.mem_filter, List.mem_range]
def orMask (l : List Nat) : Nat := l.foldl (fun m x => m ||| 2 ^ x) 0
theorem or_bit : ∀ (l : List Nat) (t z : Nat), (l.foldl (fun m x => m ||| 2 ^ x) t).testBit z = true ↔ t.testBit z = true ∨ z ∈ l
  | [], t, z => by simp
  | x :: r, t, z => by
    rw [List.foldl_cons, or_bit r, Nat.testBit_or, Bool.or_eq_true, one_bit, decide_eq_true_eq, List.mem_cons]
    constructor
    · rintro ((h | h) | h)
      · exact Or.inl h
      · exact Or.inr (Or.inl h.symm)
      · exact Or.inr (Or.inr h)
    · rintro (h | h | h)
      · exact Or.inl (Or.inl h)
      · exact Or.inl (Or.inr h.symm)
      · exact Or.inr h
theorem orMask_bit (l : List Nat) (z : Nat) : (orMask l).testBit z = true ↔ z ∈ l := by
  unfold orMask
  rw [or_bit]
  simp
/-- a list of as many as the set has: it makes the set just if all lie in it and are different -/
theorem mask_iff {n s : Nat} {l : List Nat} (hs : s < 2 ^ n) (hl : l.length = many n s) (hn : ∀ x ∈ l, x < n) : orMask l = s ↔ (∀ x ∈ l, s.testBit x = true) ∧ l.Nodup := by
  constructor
  · intro h
    have hin : ∀ x ∈ l, s.testBit x = true := by
      intro x hx
      rw [← h]
      exact (orMask_bit l x).mpr hx
    refine ⟨hin, nodup_of_len (bits_nodup n s) ?_ (by rw [bits_len, hl]; exact Nat.le_refl _)⟩
    intro x hx
    have := (mem_bits.mp hx).2
    rw [← h] at this
    exact (orMask_bit l x).mp this
  · rintro ⟨hin, hd⟩
    refine Nat.eq_of_testBit_eq fun z => ?_
    rw [Bool.eq_iff_iff, orMask_bit]
    constructor
    · exact hin z
    · intro hz
      have hb : z ∈ bits n s := mem_bits.mpr ⟨bits_lt hs hz, hz⟩
      refine sub_full hd (fun x hx => mem_bits.mpr ⟨hn x hx, hin x hx⟩) (by rw [bits_len, hl]; exact Nat.le_refl _) z hb
/-- s, s + d, ..: k of them -/
def prog (n o d k : Nat) : List Nat := (List.range k).map fun i => (o + i * d) % n
theorem prog_len (n o d k : Nat) : (prog n o d k).length = k := by
  unfold prog
  rw [List.length_map, List.length_range]
theorem prog_lt {n o d k : Nat} (hn : 0 < n) : ∀ x ∈ prog n o d k, x < n := by
  unfold prog
  intro x hx
  obtain ⟨i, _, rfl⟩ := List.mem_map.mp hx
  exact Nat.mod_lt _ hn
def stepAt (n s d : Nat) : Bool := (List.range n).any fun o => decide (orMask (prog n o d (many n s)) = s)
theorem step_eq {n s : Nat} (hn : 0 < n) (hs : s < 2 ^ n) : Sv63Neutral.stepOf n s = if many n s < 2 then none else ((List.range n).drop 1).find? (stepAt n s) := by
  unfold Sv63Neutral.stepOf
  have e : (fun (d : Nat) => (List.range n).any fun (o : Nat) => let l := (List.range (many n s)).map fun (i : Nat) => (o + i * d) % n
      l.all (fun (x : Nat) => s.testBit x) && decide l.Nodup) = stepAt n s := by
    funext d
    unfold stepAt
    congr 1
    funext o
    rw [Bool.eq_iff_iff, decide_eq_true_eq, mask_iff hs (prog_len ..) (prog_lt hn)]
    show ((prog n o d (many n s)).all (fun x => s.testBit x) && decide (prog n o d (many n s)).Nodup) = true ↔ _
    rw [Bool.and_eq_true, List.all_eq_true, decide_eq_true_eq]
  show (if many n s < 2 then none else ((List.range n).drop 1).find? (fun (d : Nat) => (List.range n).any fun (o : Nat) => let l := (List.range (many n s)).map fun (i : Nat) => (o + i * d) % n
      l.all (fun (x : Nat) => s.testBit x) && decide l.Nodup)) = _
  rw [e]
/-- the least of a search that begins at 1 -/
theorem find_from {p : Nat → Bool} {n k : Nat} (h1 : 1 ≤ k) (hk : k < n) (hp : p k = true) (hl : ∀ j, 1 ≤ j → j < k → p j = false) : ((List.range n).drop 1).find? p = some k := by
  have e : ((List.range n).drop 1) = (List.range (n - 1)).map (· + 1) := by
    cases n with
    | zero => omega
    | succ n => rw [List.range_succ_eq_map]; rfl
  rw [e, List.find?_map, find_range (k := k - 1) (by omega)]
  · simp; omega
  · show p (k - 1 + 1) = true
    have : k - 1 + 1 = k := by omega
    rw [this]
    exact hp
  · intro j hj
    exact hl (j + 1) (by omega) (by omega)
theorem find_from_none {p : Nat → Bool} {n : Nat} (hl : ∀ j, 1 ≤ j → j < n → p j = false) : ((List.range n).drop 1).find? p = none := by
  rw [List.find?_eq_none]
  intro x hx
  have hx' : x ∈ List.range n := List.mem_of_mem_drop hx
  have h0 : 1 ≤ x := by
    have e : ((List.range n).drop 1) = (List.range (n - 1)).map (· + 1) := by
      cases n with
      | zero => rfl
      | succ n => rw [List.range_succ_eq_map]; rfl
    rw [e] at hx
    obtain ⟨i, _, rfl⟩ := List.mem_map.mp hx
    omega
  rw [hl x h0 (List.mem_range.mp hx')]
  exact Bool.noConfusion
/-- none of it is a sum of two of it -/
theorem sums_bit (N A B z : Nat) : (sums N A B).testBit z = true ↔ z < N ∧ ∃ x, x < N ∧ A.testBit x = true ∧ ∃ y, y < N ∧ B.testBit y = true ∧ (x + y) % N = z := by
  unfold sums
  rw [setOf_bit]
  simp only [remainders, has, Bool.and_eq_true, decide_eq_true_eq, List.any_eq_true, List.mem_range, beq_iff_eq]
theorem free_iff {n s : Nat} : Sv63Neutral.isFree n s = true ↔ ∀ x, x < n → s.testBit x = true → ∀ y, y < n → s.testBit y = true → s.testBit ((x + y) % n) = false := by
  unfold Sv63Neutral.isFree
  simp only [List.all_eq_true, List.mem_range, Bool.or_eq_true, Bool.not_eq_true']
  constructor
  · intro h x hx ex y hy ey
    rcases h x hx with q | q
    · rw [ex] at q; exact Bool.noConfusion q
    · rcases q y hy with q | q
      · rw [ey] at q; exact Bool.noConfusion q
      · exact q
  · intro h x hx
    cases ex : s.testBit x with
    | false => exact Or.inl rfl
    | true =>
      refine Or.inr fun y hy => ?_
      cases ey : s.testBit y with
      | false => exact Or.inl rfl
      | true => exact Or.inr (h x hx ex y hy ey)
theorem free_sums {n s : Nat} : Sv63Neutral.isFree n s = true ↔ sums n s s &&& s = 0 := by
  rw [free_iff]
  constructor
  · intro h
    refine Nat.eq_of_testBit_eq fun z => ?_
    rw [Nat.testBit_and, Nat.zero_testBit]
    cases e : (sums n s s).testBit z with
    | false => rfl
    | true =>
      obtain ⟨_, x, hx, ex, y, hy, ey, rfl⟩ := (sums_bit n s s z).mp e
      rw [h x hx ex y hy ey]
      rfl
  · intro h x hx ex y hy ey
    have e : (sums n s s).testBit ((x + y) % n) = true := (sums_bit ..).mpr ⟨Nat.mod_lt _ (by omega), x, hx, ex, y, hy, ey, rfl⟩
    have q : (sums n s s &&& s).testBit ((x + y) % n) = false := by rw [h, Nat.zero_testBit]
    rw [Nat.testBit_and, e, Bool.true_and] at q
    exact q
end RS

namespace RS
open Sv63
/-! step: what is joined from the least member, one turn after the other, is a row s, s + d, ..; it is all of the set just if the set is such a row -/
theorem low_pow : ∀ (k A : Nat), A < 2 ^ k → 0 < A → ∃ x, A.testBit x = true ∧ A ^^^ (A &&& (A - 1)) = 2 ^ x
  | 0, A, h, h0 => by omega
  | k + 1, A, h, h0 => by
    have ax := @Nat.and_mod_two_eq_one A (A - 1)
    have xx := @Nat.xor_mod_two_eq_one A (A &&& (A - 1))
    have hd : (A ^^^ (A &&& (A - 1))) / 2 = (A / 2) ^^^ ((A / 2) &&& ((A - 1) / 2)) := by rw [Nat.xor_div_two, Nat.and_div_two]
    by_cases o : A % 2 = 1
    · refine ⟨0, by simp [o], ?_⟩
      have e : (A - 1) / 2 = A / 2 := by omega
      rw [e, Nat.and_self, Nat.xor_self] at hd
      have p : (2 : Nat) ^ 0 = 1 := rfl
      rw [p]
      omega
    · have e : (A - 1) / 2 = A / 2 - 1 := by omega
      rw [e] at hd
      obtain ⟨x, hx, ex⟩ := low_pow k (A / 2) (by rw [Nat.pow_succ] at h; omega) (by omega)
      rw [ex] at hd
      refine ⟨x + 1, by rw [Nat.testBit_succ]; exact hx, ?_⟩
      rw [Nat.pow_succ]
      omega
theorem two_members {N A x y : Nat} (hA : A < 2 ^ N) (hx : A.testBit x = true) (hy : A.testBit y = true) (ne : x ≠ y) : 2 ≤ many N A := by
  rw [← bits_len]
  have h := len_sub (l := [x, y]) (f := bits N A) (by simp [ne]) (by
    intro z hz
    simp only [List.mem_cons, List.not_mem_nil, or_false] at hz
    rcases hz with e | e
    · subst e; exact mem_bits.mpr ⟨bits_lt hA hx, hx⟩
    · subst e; exact mem_bits.mpr ⟨bits_lt hA hy, hy⟩)
  simpa using h
theorem many_two {N A : Nat} (hA : A < 2 ^ N) (h0 : 0 < A) : A &&& (A - 1) = 0 ↔ many N A < 2 := by
  obtain ⟨x, hx, ex⟩ := low_pow N A hA h0
  constructor
  · intro h
    rw [h, Nat.xor_zero] at ex
    rw [← bits_len]
    have q := len_sub (l := bits N A) (f := [x]) (bits_nodup N A) (by
      intro z hz
      have hz := (mem_bits.mp hz).2
      rw [ex, one_bit, decide_eq_true_eq] at hz
      simp [hz])
    simp at q
    omega
  · intro h
    apply Classical.byContradiction
    intro hne
    have hb : ∃ y, (A &&& (A - 1)).testBit y = true := by
      apply Classical.byContradiction
      intro q
      apply hne
      refine Nat.eq_of_testBit_eq fun z => ?_
      rw [Nat.zero_testBit]
      cases e : (A &&& (A - 1)).testBit z with
      | false => rfl
      | true => exact absurd ⟨z, e⟩ q
    obtain ⟨y, hy⟩ := hb
    have hyA : A.testBit y = true := by
      rw [Nat.testBit_and, Bool.and_eq_true] at hy
      exact hy.1
    have ne : x ≠ y := by
      intro e
      subst e
      have q : (A ^^^ (A &&& (A - 1))).testBit x = true := by rw [ex, one_bit]; simp
      rw [Nat.testBit_xor, hx, hy] at q
      exact Bool.noConfusion q
    have := two_members hA hx hyA ne
    omega
/-- the places of a row -/
def At (N d o m z : Nat) : Prop := ∃ i, i < m ∧ (o + i * d) % N = z
theorem at_prog (N d o m z : Nat) : z ∈ prog N o d m ↔ At N d o m z := by
  unfold prog At
  rw [List.mem_map]
  constructor
  · rintro ⟨i, hi, e⟩
    exact ⟨i, List.mem_range.mp hi, e⟩
  · rintro ⟨i, hi, e⟩
    exact ⟨i, List.mem_range.mpr hi, e⟩
theorem at_up (N d o m z : Nat) : At N d o (m + 1) z ↔ At N d o m z ∨ z = (o + m * d) % N := by
  constructor
  · rintro ⟨i, hi, e⟩
    by_cases c : i = m
    · subst c; exact Or.inr e.symm
    · exact Or.inl ⟨i, by omega, e⟩
  · rintro (⟨i, hi, e⟩ | e)
    · exact ⟨i, by omega, e⟩
    · exact ⟨m, by omega, e.symm⟩
theorem next_mod (N d o i : Nat) : ((o + i * d) % N + d) % N = (o + (i + 1) * d) % N := by
  rw [Nat.mod_add_mod]
  congr 1
  rw [Nat.add_mul]
  omega
theorem back_on {N d z : Nat} (hz : z < N) (hd : d < N) : ((z + N - d) % N + d) % N = z := by
  have hl : (z + N - d) % N < N := Nat.mod_lt _ (by omega)
  rw [mod_cases (x := (z + N - d) % N + d) (by omega), mod_cases (x := z + N - d) (by omega)]
  split <;> split <;> omega
theorem on_back {N d z : Nat} (hz : z < N) (hd : d < N) : ((z + d) % N + N - d) % N = z := by
  have hl : (z + d) % N < N := Nat.mod_lt _ (by omega)
  rw [mod_cases (x := (z + d) % N + N - d) (by omega), mod_cases (x := z + d) (by omega)]
  split <;> split <;> omega
theorem at_down {N d o : Nat} (ho : o < N) (hd : d < N) (m z : Nat) : At N d ((o + N - d) % N) (m + 1) z ↔ z = (o + N - d) % N ∨ At N d o m z := by
  have sh : ∀ j, ((o + N - d) % N + (j + 1) * d) % N = (o + j * d) % N := by
    intro j
    have e : (o + N - d) % N + (j + 1) * d = ((o + N - d) % N + d) + j * d := by rw [Nat.add_mul]; omega
    rw [e, ← Nat.mod_add_mod, back_on ho hd]
  constructor
  · rintro ⟨i, hi, e⟩
    cases i with
    | zero =>
      rw [Nat.zero_mul, Nat.add_zero, Nat.mod_mod] at e
      exact Or.inl e.symm
    | succ j => exact Or.inr ⟨j, by omega, by rw [← sh j]; exact e⟩
  · rintro (e | ⟨j, hj, e⟩)
    · exact ⟨0, by omega, by rw [Nat.zero_mul, Nat.add_zero, Nat.mod_mod]; exact e.symm⟩
    · exact ⟨j + 1, by omega, by rw [sh j]; exact e⟩
def turnN (N A d r : Nat) : Nat := r ||| ((movedN N r d ||| movedN N r (N - d)) &&& A)
theorem turn_bit {N A d r : Nat} (hA : A < 2 ^ N) (hr : r < 2 ^ N) (h1 : 1 ≤ d) (hd : d < N) (z : Nat) :
    (turnN N A d r).testBit z = true ↔ r.testBit z = true ∨ (A.testBit z = true ∧ (r.testBit ((z + N - d) % N) = true ∨ r.testBit ((z + d) % N) = true)) := by
  unfold turnN
  rw [Nat.testBit_or, Bool.or_eq_true, Nat.testBit_and, Bool.and_eq_true, Nat.testBit_or, Bool.or_eq_true]
  by_cases hz : z < N
  · rw [moved_bit hr hd hz, moved_bit hr (show N - d < N by omega) hz]
    have e1 : (if d ≤ z then z - d else z + N - d) = (z + N - d) % N := by
      rw [mod_cases (by omega)]
      split <;> split <;> omega
    have e2 : (if N - d ≤ z then z - (N - d) else z + N - (N - d)) = (z + d) % N := by
      rw [mod_cases (by omega)]
      split <;> split <;> omega
    rw [e1, e2]
    constructor
    · rintro (h | ⟨h, g⟩)
      · exact Or.inl h
      · exact Or.inr ⟨g, h⟩
    · rintro (h | ⟨g, h⟩)
      · exact Or.inl h
      · exact Or.inr ⟨h, g⟩
  · have hAz := bit_high hA (show N ≤ z by omega)
    rw [hAz]
    simp
/-- what is joined so far -/
structure Arc (N A d r : Nat) : Prop where
  row : ∃ o m, 1 ≤ m ∧ o < N ∧ ∀ z, r.testBit z = true ↔ At N d o m z
  inA : ∀ z, r.testBit z = true → A.testBit z = true
theorem le_of_sub {A r : Nat} (h : ∀ z, r.testBit z = true → A.testBit z = true) : r ≤ A := by
  have e : r ||| A = A := by
    refine Nat.eq_of_testBit_eq fun z => ?_
    rw [Nat.testBit_or]
    cases q : r.testBit z with
    | false => rfl
    | true => rw [h z q]; rfl
  rw [← e]
  exact Nat.left_le_or
theorem Arc.le {N A d r : Nat} (h : Arc N A d r) : r ≤ A := le_of_sub h.inA
theorem Arc.pos {N A d r : Nat} (h : Arc N A d r) : 0 < r := by
  obtain ⟨o, m, hm, ho, hb⟩ := h.row
  have q := (hb ((o + 0 * d) % N)).mpr ⟨0, by omega, rfl⟩
  apply Nat.pos_of_ne_zero
  intro e
  rw [e, Nat.zero_testBit] at q
  exact Bool.noConfusion q
theorem turn_le (N A d r : Nat) : r ≤ turnN N A d r := Nat.left_le_or
theorem Arc.turn {N A d r : Nat} (h : Arc N A d r) (hA : A < 2 ^ N) (h1 : 1 ≤ d) (hd : d < N) : Arc N A d (turnN N A d r) := by
  have hr : r < 2 ^ N := Nat.lt_of_le_of_lt h.le hA
  obtain ⟨o, m, hm, ho, hb⟩ := h.row
  have key : ∀ z, (turnN N A d r).testBit z = true ↔ At N d o m z ∨ (A.testBit ((o + m * d) % N) = true ∧ z = (o + m * d) % N) ∨ (A.testBit ((o + N - d) % N) = true ∧ z = (o + N - d) % N) := by
    intro z
    rw [turn_bit hA hr h1 hd, hb z]
    constructor
    · rintro (q | ⟨hz, q | q⟩)
      · exact Or.inl q
      · have zl := bits_lt hA hz
        obtain ⟨i, hi, e⟩ := (hb _).mp q
        have ez : (o + (i + 1) * d) % N = z := by rw [← next_mod, e, back_on zl hd]
        by_cases c : i + 1 < m
        · exact Or.inl ⟨i + 1, c, ez⟩
        · have : i + 1 = m := by omega
          rw [this] at ez
          exact Or.inr (Or.inl ⟨by rw [ez]; exact hz, ez.symm⟩)
      · have zl := bits_lt hA hz
        obtain ⟨i, hi, e⟩ := (hb _).mp q
        cases i with
        | zero =>
          rw [Nat.zero_mul, Nat.add_zero, Nat.mod_eq_of_lt ho] at e
          have ez : (o + N - d) % N = z := by rw [e, on_back zl hd]
          exact Or.inr (Or.inr ⟨by rw [ez]; exact hz, ez.symm⟩)
        | succ j =>
          rw [← next_mod] at e
          have jl : (o + j * d) % N < N := Nat.mod_lt _ (by omega)
          have ez : (o + j * d) % N = z := by rw [← on_back jl hd, e, on_back zl hd]
          exact Or.inl ⟨j, by omega, ez⟩
    · rintro (q | ⟨hz, e⟩ | ⟨hz, e⟩)
      · exact Or.inl q
      · rw [← e] at hz
        refine Or.inr ⟨hz, Or.inl ?_⟩
        obtain ⟨k, rfl⟩ : ∃ k, m = k + 1 := ⟨m - 1, by omega⟩
        have jl : (o + k * d) % N < N := Nat.mod_lt _ (by omega)
        rw [e, ← next_mod, on_back jl hd]
        exact (hb _).mpr ⟨k, by omega, rfl⟩
      · rw [← e] at hz
        refine Or.inr ⟨hz, Or.inr ?_⟩
        rw [e, back_on ho hd]
        exact (hb _).mpr ⟨0, by omega, by rw [Nat.zero_mul, Nat.add_zero, Nat.mod_eq_of_lt ho]⟩
  constructor
  · by_cases up : A.testBit ((o + m * d) % N) = true
    · by_cases dn : A.testBit ((o + N - d) % N) = true
      · refine ⟨(o + N - d) % N, m + 1 + 1, by omega, Nat.mod_lt _ (by omega), fun z => ?_⟩
        rw [key z, at_down ho hd, at_up]
        constructor
        · rintro (q | ⟨_, q⟩ | ⟨_, q⟩)
          · exact Or.inr (Or.inl q)
          · exact Or.inr (Or.inr q)
          · exact Or.inl q
        · rintro (q | q | q)
          · exact Or.inr (Or.inr ⟨dn, q⟩)
          · exact Or.inl q
          · exact Or.inr (Or.inl ⟨up, q⟩)
      · refine ⟨o, m + 1, by omega, ho, fun z => ?_⟩
        rw [key z, at_up]
        constructor
        · rintro (q | ⟨_, q⟩ | ⟨q, _⟩)
          · exact Or.inl q
          · exact Or.inr q
          · exact absurd q dn
        · rintro (q | q)
          · exact Or.inl q
          · exact Or.inr (Or.inl ⟨up, q⟩)
    · by_cases dn : A.testBit ((o + N - d) % N) = true
      · refine ⟨(o + N - d) % N, m + 1, by omega, Nat.mod_lt _ (by omega), fun z => ?_⟩
        rw [key z, at_down ho hd]
        constructor
        · rintro (q | ⟨q, _⟩ | ⟨_, q⟩)
          · exact Or.inr q
          · exact absurd q up
          · exact Or.inl q
        · rintro (q | q)
          · exact Or.inr (Or.inr ⟨dn, q⟩)
          · exact Or.inl q
      · refine ⟨o, m, hm, ho, fun z => ?_⟩
        rw [key z]
        constructor
        · rintro (q | ⟨q, _⟩ | ⟨q, _⟩)
          · exact q
          · exact absurd q up
          · exact absurd q dn
        · exact Or.inl
  · intro z hz
    rcases (turn_bit hA hr h1 hd z).mp hz with q | ⟨q, _⟩
    · exact h.inA z q
    · exact q
theorem Arc.start {N A d x : Nat} (hA : A < 2 ^ N) (hx : A.testBit x = true) : Arc N A d (2 ^ x) := by
  have xl := bits_lt hA hx
  constructor
  · refine ⟨x, 1, by omega, xl, fun z => ?_⟩
    rw [one_bit, decide_eq_true_eq]
    constructor
    · intro e
      exact ⟨0, by omega, by rw [Nat.zero_mul, Nat.add_zero, Nat.mod_eq_of_lt xl]; exact e⟩
    · rintro ⟨i, hi, e⟩
      have : i = 0 := by omega
      subst this
      rw [Nat.zero_mul, Nat.add_zero, Nat.mod_eq_of_lt xl] at e
      exact e
  · intro z hz
    rw [one_bit, decide_eq_true_eq] at hz
    rw [← hz]
    exact hx
/-- a row told with repeats is one without -/
theorem shrink {N A d o : Nat} : ∀ m, (∀ z, A.testBit z = true ↔ At N d o m z) → ∃ k, (∀ z, A.testBit z = true ↔ At N d o k z) ∧ (prog N o d k).Nodup
  | 0, h => ⟨0, h, by unfold prog; exact List.nodup_nil⟩
  | m + 1, h => by
    by_cases hd : (prog N o d (m + 1)).Nodup
    · exact ⟨m + 1, h, hd⟩
    · have rep : ∃ i j, i < j ∧ j ≤ m ∧ (o + i * d) % N = (o + j * d) % N := by
        apply Classical.byContradiction
        intro q
        apply hd
        unfold prog
        rw [List.nodup_iff_pairwise_ne, List.pairwise_map]
        refine List.Pairwise.imp_of_mem ?_ (List.pairwise_lt_range (n := m + 1))
        intro i j hi hj lt e
        exact q ⟨i, j, lt, by have := List.mem_range.mp hj; omega, e⟩
      obtain ⟨i, j, lt, le, e⟩ := rep
      refine shrink m fun z => ?_
      rw [h z, at_up]
      constructor
      · rintro (q | q)
        · exact q
        · refine ⟨i + (m - j), by omega, ?_⟩
          have e1 : o + (i + (m - j)) * d = (o + i * d) + (m - j) * d := by rw [Nat.add_mul]; omega
          have e2 : o + m * d = (o + j * d) + (m - j) * d := by
            have : m * d = j * d + (m - j) * d := by rw [← Nat.add_mul]; congr 1; omega
            omega
          rw [q, e1, e2, ← Nat.mod_add_mod, e, Nat.mod_add_mod]
      · exact Or.inl
theorem arc_step {N A d : Nat} (hA : A < 2 ^ N) (h : Arc N A d A) : stepAt N A d = true := by
  obtain ⟨o, m, hm, ho, hb⟩ := h.row
  obtain ⟨k, hk, nd⟩ := shrink m hb
  have el : k = many N A := by
    rw [← bits_len]
    have l1 := len_sub (l := prog N o d k) (f := bits N A) nd (by
      intro z hz
      have := (hk z).mpr ((at_prog ..).mp hz)
      exact mem_bits.mpr ⟨bits_lt hA this, this⟩)
    have l2 := len_sub (l := bits N A) (f := prog N o d k) (bits_nodup N A) (by
      intro z hz
      exact (at_prog ..).mpr ((hk z).mp (mem_bits.mp hz).2))
    rw [prog_len] at l1 l2
    omega
  unfold stepAt
  rw [List.any_eq_true]
  refine ⟨o, List.mem_range.mpr ho, ?_⟩
  rw [decide_eq_true_eq, ← el]
  refine Nat.eq_of_testBit_eq fun z => ?_
  rw [Bool.eq_iff_iff, orMask_bit, at_prog, hk z]
theorem step_arc {N A d r : Nat} (hA : A < 2 ^ N) (h1 : 1 ≤ d) (hd : d < N) (h : Arc N A d r) (hc : turnN N A d r = r) (hs : stepAt N A d = true) : r = A := by
  have hr : r < 2 ^ N := Nat.lt_of_le_of_lt h.le hA
  unfold stepAt at hs
  rw [List.any_eq_true] at hs
  obtain ⟨o, ho, hs⟩ := hs
  have ho := List.mem_range.mp ho
  rw [decide_eq_true_eq] at hs
  generalize many N A = k at hs
  have hk : ∀ z, A.testBit z = true ↔ At N d o k z := by
    intro z
    rw [← hs, orMask_bit, at_prog]
  have cl : ∀ z, A.testBit z = true → (r.testBit ((z + N - d) % N) = true ∨ r.testBit ((z + d) % N) = true) → r.testBit z = true := by
    intro z hz q
    have := (turn_bit hA hr h1 hd z).mpr (Or.inr ⟨hz, q⟩)
    rw [hc] at this
    exact this
  have hx : ∃ x, r.testBit x = true := by
    obtain ⟨o', m', hm', _, hb'⟩ := h.row
    exact ⟨_, (hb' ((o' + 0 * d) % N)).mpr ⟨0, by omega, rfl⟩⟩
  obtain ⟨x, hx⟩ := hx
  obtain ⟨i, hi, ex⟩ := (hk x).mp (h.inA x hx)
  have up : ∀ j, i + j < k → r.testBit ((o + (i + j) * d) % N) = true := by
    intro j
    induction j with
    | zero => intro _; rw [Nat.add_zero, ex]; exact hx
    | succ j ih =>
      intro hj
      refine cl _ ((hk _).mpr ⟨i + (j + 1), hj, rfl⟩) (Or.inl ?_)
      have e : i + (j + 1) = (i + j) + 1 := by omega
      have jl : (o + (i + j) * d) % N < N := Nat.mod_lt _ (by omega)
      rw [e, ← next_mod, on_back jl hd]
      exact ih (by omega)
  have dn : ∀ j, j ≤ i → r.testBit ((o + (i - j) * d) % N) = true := by
    intro j
    induction j with
    | zero => intro _; rw [Nat.sub_zero, ex]; exact hx
    | succ j ih =>
      intro hj
      refine cl _ ((hk _).mpr ⟨i - (j + 1), by omega, rfl⟩) (Or.inr ?_)
      have e : i - (j + 1) + 1 = i - j := by omega
      rw [next_mod, e]
      exact ih (by omega)
  refine Nat.eq_of_testBit_eq fun z => ?_
  rw [Bool.eq_iff_iff]
  constructor
  · exact h.inA z
  · intro hz
    obtain ⟨t, ht, et⟩ := (hk z).mp hz
    rw [← et]
    by_cases c : i ≤ t
    · have := up (t - i) (by omega)
      have e : i + (t - i) = t := by omega
      rw [e] at this
      exact this
    · have := dn (i - t) (by omega)
      have e : i - (i - t) = t := by omega
      rw [e] at this
      exact this
end RS

open PySem PySem.W
namespace RS
theorem and_nat (x y : Nat) : Builtin.bitAnd (x : Int) (y : Int) = ((x &&& y : Nat) : Int) := by
  rw [PyProof.Rows.bitAnd_pp (Int.natCast_nonneg x) (Int.natCast_nonneg y), Int.toNat_natCast, Int.toNat_natCast]
theorem or_add_and : ∀ (k x y : Nat), x < 2 ^ k → x + y = (x ||| y) + (x &&& y)
  | 0, x, y, h => by
    have : x = 0 := by omega
    subst this
    simp
  | k + 1, x, y, h => by
    have ih := or_add_and k (x / 2) (y / 2) (by rw [Nat.pow_succ] at h; omega)
    rw [← Nat.or_div_two, ← Nat.and_div_two] at ih
    have o := @Nat.or_mod_two_eq_one x y
    have a := @Nat.and_mod_two_eq_one x y
    omega
theorem or_nat (x y : Nat) : Builtin.bitOr (x : Int) (y : Int) = ((x ||| y : Nat) : Int) := by
  rw [PyProof.Rows.bitOr_and, and_nat]
  have h := or_add_and x x y Nat.lt_two_pow_self
  omega
theorem pow_nat (k : Nat) : (2 : Int) ^ k = ((2 ^ k : Nat) : Int) := (kbt_cast k).symm
theorem fdiv_nat (x k : Nat) : (x : Int).fdiv (2 ^ k) = ((x / 2 ^ k : Nat) : Int) := by
  rw [pow_nat, Int.fdiv_eq_ediv_of_nonneg _ (Int.natCast_nonneg _), Int.natCast_ediv]
theorem and_one (x : Nat) : Builtin.bitAnd (x : Int) 1 = ((x % 2 : Nat) : Int) := by
  have h := and_nat x 1
  rw [Nat.and_one_is_mod] at h
  exact h
theorem full_nat (N : Nat) : (1 : Int) * 2 ^ N - 1 = ((2 ^ N - 1 : Nat) : Int) := by
  have := Nat.two_pow_pos N
  rw [Int.one_mul, pow_nat]
  omega
theorem mul_nat (x k : Nat) : (x : Int) * 2 ^ k = ((x * 2 ^ k : Nat) : Int) := by
  rw [pow_nat, Int.natCast_mul]
def movedI (n a h : Int) : Int := Builtin.bitAnd (Builtin.bitOr (a * 2 ^ h.toNat) (a.fdiv (2 ^ (n - h).toNat))) (1 * 2 ^ n.toNat - 1)
theorem movedI_nat (N A h : Nat) : movedI (N : Int) (A : Int) (h : Int) = ((movedN N A h : Nat) : Int) := by
  unfold movedI movedN
  have e : ((N : Int) - (h : Int)).toNat = N - h := by omega
  rw [e, Int.toNat_natCast, Int.toNat_natCast, mul_nat, fdiv_nat, full_nat, or_nat, and_nat]
def addedI (n a b : Int) : Int := (rangeKs 0 (n - 0).toNat).foldl (fun a' k' => if Builtin.bitAnd (b.fdiv (2 ^ k'.toNat)) 1 = 1 then Builtin.bitOr a' (movedI n a k') else a') 0
theorem range_nat (N : Nat) : rangeKs 0 ((N : Int) - 0).toNat = (List.range N).map fun (i : Nat) => (i : Int) := by
  unfold rangeKs
  have e : ((N : Int) - 0).toNat = N := by omega
  rw [e]
  refine List.map_congr_left fun i _ => ?_
  omega
theorem bit_nat (B h : Nat) : (Builtin.bitAnd ((B : Int).fdiv (2 ^ (h : Int).toNat)) 1 = 1) ↔ B.testBit h = true := by
  rw [Int.toNat_natCast, fdiv_nat, and_one, Nat.testBit_eq_decide_div_mod_eq, decide_eq_true_eq]
  omega
theorem addedI_nat (N A B : Nat) : addedI (N : Int) (A : Int) (B : Int) = ((addedN N A B : Nat) : Int) := by
  unfold addedI addedN
  rw [range_nat, List.foldl_map]
  have key : ∀ (l : List Nat) (t : Nat), l.foldl (fun (a' : Int) (k' : Nat) => if Builtin.bitAnd ((B : Int).fdiv (2 ^ (k' : Int).toNat)) 1 = 1 then Builtin.bitOr a' (movedI N A k') else a') (t : Int) = ((l.foldl (fun t h => if B.testBit h = true then t ||| movedN N A h else t) t : Nat) : Int) := by
    intro l
    induction l with
    | nil => intro t; rfl
    | cons x r ih =>
      intro t
      rw [List.foldl_cons, List.foldl_cons]
      by_cases h : B.testBit x = true
      · rw [if_pos ((bit_nat B x).mpr h), if_pos h, movedI_nat, or_nat, ih]
      · rw [if_neg (fun q => h ((bit_nat B x).mp q)), if_neg h, ih]
  exact key (List.range N) 0
def manyI (n a : Int) : Int := ((rangeKs 0 (n - 0).toNat).map fun k' => Builtin.bitAnd (a.fdiv (2 ^ k'.toNat)) 1).sum
theorem sum_nat (f : Nat → Nat) : ∀ l : List Nat, (l.map fun i => ((f i : Nat) : Int)).sum = (((l.map f).sum : Nat) : Int)
  | [] => rfl
  | x :: r => by
    rw [List.map_cons, List.sum_cons, List.map_cons, List.sum_cons, sum_nat f r, Int.natCast_add]
theorem manyI_nat (N A : Nat) : manyI (N : Int) (A : Int) = ((Sv63.many N A : Nat) : Int) := by
  unfold manyI
  rw [range_nat, List.map_map, ← many_sum, ← sum_nat]
  congr 1
  refine List.map_congr_left fun i _ => ?_
  show Builtin.bitAnd ((A : Int).fdiv (2 ^ (i : Int).toNat)) 1 = _
  rw [Int.toNat_natCast, fdiv_nat, and_one]
/-- n and a set as the program looks at them -/
theorem wrong_nat {n a : Int} (h1 : 1 ≤ n) (ha : 0 ≤ a) : a.fdiv (2 ^ n.toNat) = 0 ↔ a.toNat < 2 ^ n.toNat := by
  obtain ⟨A, rfl⟩ := Int.eq_ofNat_of_zero_le ha
  rw [fdiv_nat, Int.toNat_natCast]
  have p := Nat.two_pow_pos n.toNat
  constructor
  · intro h
    have h : A / 2 ^ n.toNat = 0 := by omega
    exact Nat.lt_of_div_eq_zero p h
  · intro h
    rw [Nat.div_eq_of_lt h]
    rfl
theorem good_no {n : Int} {a : Nat} (h : n < 1 ∨ 64 < n) : Sv63.good n a = false := by
  unfold Sv63.good Sv63.within
  rcases h with h | h
  · have : decide (1 ≤ n) = false := by simp; omega
    rw [this]; simp
  · have : decide (n ≤ 64) = false := by simp; omega
    rw [this]; simp
theorem good_big {n a : Int} (h1 : 1 ≤ n) (ha : 0 ≤ a) (h : ¬ a.fdiv (2 ^ n.toNat) = 0) : Sv63.good n a.toNat = false := by
  unfold Sv63.good
  have : decide (a.toNat < 2 ^ n.toNat) = false := by
    simp only [decide_eq_false_iff_not]
    exact fun q => h ((wrong_nat h1 ha).mpr q)
  rw [this, Bool.and_false]
theorem good_yes {n a : Int} (h1 : 1 ≤ n) (h64 : n ≤ 64) (ha : 0 ≤ a) (h : a.fdiv (2 ^ n.toNat) = 0) : Sv63.good n a.toNat = true := by
  unfold Sv63.good Sv63.within
  have := (wrong_nat h1 ha).mp h
  simp [this, h1, h64]
end RS

open PySem PySem.W
namespace RS
theorem xor_nat (x y : Nat) : Builtin.bitXor (x : Int) (y : Int) = ((x ^^^ y : Nat) : Int) := by
  unfold Builtin.bitXor
  rw [or_nat, and_nat]
  have h : (x ||| y) = (x ^^^ y) + (x &&& y) := by
    have e : (x ^^^ y) &&& (x &&& y) = 0 := by
      refine Nat.eq_of_testBit_eq fun z => ?_
      rw [Nat.testBit_and, Nat.testBit_xor, Nat.testBit_and, Nat.zero_testBit]
      cases x.testBit z <;> cases y.testBit z <;> rfl
    have e2 : (x ^^^ y) ||| (x &&& y) = x ||| y := by
      refine Nat.eq_of_testBit_eq fun z => ?_
      rw [Nat.testBit_or, Nat.testBit_xor, Nat.testBit_and, Nat.testBit_or]
      cases x.testBit z <;> cases y.testBit z <;> rfl
    have q := or_add_and (x ^^^ y) (x ^^^ y) (x &&& y) Nat.lt_two_pow_self
    rw [e, e2] at q
    exact q.symm
  omega
end RS

open PySem PySem.W
namespace RS
theorem dec_cons {c : Codec} {cs : List Codec} {d : WData} {ds : List WData} (h : (Codec.decAll (c :: cs) (d :: ds)).isSome = true) :
    (Codec.decAll [c] [d]).isSome = true ∧ (Codec.decAll cs ds).isSome = true := by
  have e : Codec.decAll (c :: cs) (d :: ds) = Codec.both Prod.mk (c.dec d) (Codec.decAll cs ds) := rfl
  have e1 : Codec.decAll [c] [d] = Codec.both Prod.mk (c.dec d) (some ()) := rfl
  rw [e] at h
  rw [e1]
  cases h1 : c.dec d with
  | none =>
    rw [h1] at h
    cases h
  | some a =>
    cases h2 : Codec.decAll cs ds with
    | none =>
      rw [h1, h2] at h
      cases h
    | some r => exact ⟨rfl, rfl⟩
theorem dec_join {c : Codec} {cs : List Codec} {d : WData} {ds : List WData} {a : c.denote} {r : Codec.denoteAll cs} (h1 : Codec.decAll [c] [d] = some (a, ())) (h2 : Codec.decAll cs ds = some r) :
    Codec.decAll (c :: cs) (d :: ds) = some (a, r) := by
  have e : Codec.decAll (c :: cs) (d :: ds) = Codec.both Prod.mk (c.dec d) (Codec.decAll cs ds) := rfl
  have e1 : Codec.decAll [c] [d] = Codec.both Prod.mk (c.dec d) (some ()) := rfl
  rw [e1] at h1
  rw [e, h2]
  cases h3 : c.dec d with
  | none =>
    rw [h3] at h1
    cases h1
  | some b =>
    rw [h3] at h1
    cases h1
    rfl
theorem dec_int {lo hi k : Int} (h : (Codec.decAll [.int lo hi] [WData.int k]).isSome = true) : Codec.decAll [.int lo hi] [WData.int k] = some (k, ()) ∧ lo ≤ k ∧ k ≤ hi := by
  have e : Codec.decAll [.int lo hi] [WData.int k] = Codec.both Prod.mk (if Codec.inInt lo hi k = true then some k else none) (some ()) := rfl
  rw [e] at h ⊢
  cases h1 : Codec.inInt lo hi k with
  | false =>
    rw [h1] at h
    cases h
  | true =>
    unfold Codec.inInt at h1
    simp only [Bool.and_eq_true, decide_eq_true_eq] at h1
    exact ⟨rfl, h1.1, h1.2⟩
theorem same_one {x : Int} {k : List Int} (h : [x] = k) : same (ofPy (PyData.list [PyData.int x])) (WData.list (k.map WData.int)) = true := by
  subst h
  exact same_self _
theorem same_two {x y : Int} {k : List Int} (h : [x, y] = k) : same (ofPy (PyData.list [PyData.int x, PyData.int y])) (WData.list (k.map WData.int)) = true := by
  subst h
  exact same_self _
end RS

open PySem PySem.W
namespace RS
theorem bounds {n a : Int} (h : PySem.Challenge.rw_remaindersums_s05_step.pre [WData.int n, WData.int a] = true) : 0 ≤ a ∧ a ≤ 18446744073709551615 := by
  obtain ⟨q1, q2⟩ := dec_cons (os_pre_isSome h)
  obtain ⟨e2, lo2, hi2⟩ := dec_int q2
  exact ⟨lo2, hi2⟩
def turnI (n a d r : Int) : Int := Builtin.bitOr r (Builtin.bitAnd (Builtin.bitOr (movedI n r d) (movedI n r (n - d))) a)
theorem turnI_nat {N A d r : Nat} (hd : d ≤ N) : turnI (N : Int) (A : Int) (d : Int) (r : Int) = ((turnN N A d r : Nat) : Int) := by
  unfold turnI turnN
  have e : (N : Int) - (d : Int) = ((N - d : Nat) : Int) := by omega
  rw [e, movedI_nat, movedI_nat, or_nat, and_nat, or_nat]
/-- the while: what is reached is a row, and was reached from what it was before -/
structure Join (n a d r b : Int) : Prop where
  arc : Arc n.toNat a.toNat d.toNat r.toNat
  lt : a.toNat < 2 ^ n.toNat
  from_ : b = 0 ∨ r = turnI n a d b
theorem startJ {n a d : Int} (hp : PySem.Challenge.rw_remaindersums_s05_step.pre [WData.int n, WData.int a] = true) (hw : a.fdiv (2 ^ n.toNat) = 0) (hne : ¬ Builtin.bitAnd a (a - 1) = 0) (h1 : 1 ≤ n) (h64 : n ≤ 64) (d1 : 1 ≤ d) (dn : d < n) :
    1 ≤ n ∧ n ≤ 64 ∧ 0 ≤ a ∧ a ≤ 18446744073709551615 ∧ 1 ≤ d ∧ d < n ∧ 0 ≤ Builtin.bitXor a (Builtin.bitAnd a (a - 1)) ∧ Builtin.bitXor a (Builtin.bitAnd a (a - 1)) ≤ a ∧ Join n a d (Builtin.bitXor a (Builtin.bitAnd a (a - 1))) 0 := by
  obtain ⟨a0, a1⟩ := bounds hp
  have lt := (wrong_nat h1 a0).mp hw
  obtain ⟨A, rfl⟩ := Int.eq_ofNat_of_zero_le a0
  have hA : 0 < A := by
    apply Nat.pos_of_ne_zero
    intro e
    subst e
    exact hne (by decide)
  have e1 : (A : Int) - 1 = ((A - 1 : Nat) : Int) := by omega
  rw [e1, and_nat, xor_nat]
  rw [Int.toNat_natCast] at lt
  obtain ⟨x, hx, ex⟩ := low_pow n.toNat A lt hA
  have arc : Arc n.toNat A d.toNat (2 ^ x) := Arc.start lt hx
  rw [ex]
  have le := arc.le
  refine ⟨h1, h64, a0, a1, d1, dn, Int.natCast_nonneg _, by omega, ⟨?_, ?_, Or.inl rfl⟩⟩
  · rw [Int.toNat_natCast, Int.toNat_natCast]; exact arc
  · rw [Int.toNat_natCast]; exact lt
theorem turnJ {n a d r b : Int} (w : Join n a d r b) (h1 : 1 ≤ n) (h64 : n ≤ 64) (a0 : 0 ≤ a) (a1 : a ≤ 18446744073709551615) (d1 : 1 ≤ d) (dn : d < n) (r0 : 0 ≤ r) :
    1 ≤ n ∧ n ≤ 64 ∧ 0 ≤ a ∧ a ≤ 18446744073709551615 ∧ 1 ≤ d ∧ d < n ∧ 0 ≤ turnI n a d r ∧ turnI n a d r ≤ a ∧ Join n a d (turnI n a d r) r := by
  obtain ⟨arc, lt, _⟩ := w
  obtain ⟨N, rfl⟩ := Int.eq_ofNat_of_zero_le (show 0 ≤ n by omega)
  obtain ⟨A, rfl⟩ := Int.eq_ofNat_of_zero_le a0
  obtain ⟨D, rfl⟩ := Int.eq_ofNat_of_zero_le (show 0 ≤ d by omega)
  obtain ⟨R, rfl⟩ := Int.eq_ofNat_of_zero_le r0
  simp only [Int.toNat_natCast] at arc lt
  have e := turnI_nat (N := N) (A := A) (d := D) (r := R) (by omega)
  have arc' := arc.turn lt (by omega) (by omega)
  have le := arc'.le
  refine ⟨h1, h64, a0, a1, d1, dn, by rw [e]; exact Int.natCast_nonneg _, by rw [e]; omega, ⟨?_, ?_, Or.inr rfl⟩⟩
  · rw [e]
    simp only [Int.toNat_natCast]
    exact arc'
  · simp only [Int.toNat_natCast]
    exact lt
theorem fallJ {n a d r b : Int} (w : Join n a d r b) (c : ¬ r = b) (h1 : 1 ≤ n) (a0 : 0 ≤ a) (d1 : 1 ≤ d) (dn : d < n) (r0 : 0 ≤ r) (ra : r ≤ a) :
    2 * (a - turnI n a d r).toNat + (if turnI n a d r = r then 0 else 1) < 2 * (a - r).toNat + (if r = b then 0 else 1) := by
  obtain ⟨arc, lt, _⟩ := w
  obtain ⟨N, rfl⟩ := Int.eq_ofNat_of_zero_le (show 0 ≤ n by omega)
  obtain ⟨A, rfl⟩ := Int.eq_ofNat_of_zero_le a0
  obtain ⟨D, rfl⟩ := Int.eq_ofNat_of_zero_le (show 0 ≤ d by omega)
  obtain ⟨R, rfl⟩ := Int.eq_ofNat_of_zero_le r0
  simp only [Int.toNat_natCast] at arc lt
  have arc' := arc.turn lt (by omega) (by omega)
  have le := arc'.le
  have le2 := turn_le N A D R
  rw [turnI_nat (by omega), if_neg c]
  split <;> omega
/-- the search: none of the d so far -/
def Not {n a : Int} (_ : PySem.Challenge.rw_remaindersums_s05_step.pre [WData.int n, WData.int a] = true) (pre : List Int) : Prop := ∀ j : Nat, 1 ≤ j → j < 1 + pre.length → stepAt n.toNat a.toNat j = false
theorem startN {n a : Int} (h : PySem.Challenge.rw_remaindersums_s05_step.pre [WData.int n, WData.int a] = true) : Not h [] := by
  intro j h1 h2
  simp at h2
  omega
theorem done {n a d r b : Int} (w : Join n a d r b) (e : r = b) (h1 : 1 ≤ n) (a0 : 0 ≤ a) (d1 : 1 ≤ d) (dn : d < n) (r0 : 0 ≤ r) : stepAt n.toNat a.toNat d.toNat = decide (r = a) := by
  obtain ⟨arc, lt, fr⟩ := w
  obtain ⟨N, rfl⟩ := Int.eq_ofNat_of_zero_le (show 0 ≤ n by omega)
  obtain ⟨A, rfl⟩ := Int.eq_ofNat_of_zero_le a0
  obtain ⟨D, rfl⟩ := Int.eq_ofNat_of_zero_le (show 0 ≤ d by omega)
  obtain ⟨R, rfl⟩ := Int.eq_ofNat_of_zero_le r0
  simp only [Int.toNat_natCast] at arc lt ⊢
  have p := arc.pos
  subst e
  have c : turnN N A D R = R := by
    rcases fr with q | q
    · omega
    · rw [turnI_nat (by omega)] at q
      omega
  rw [Bool.eq_iff_iff, decide_eq_true_eq]
  constructor
  · intro h
    have := step_arc lt (by omega) (by omega) arc c h
    omega
  · intro h
    have : R = A := by omega
    subst this
    exact arc_step lt arc
theorem turnN' {n a d r b : Int} {pre : List Int} (h : PySem.Challenge.rw_remaindersums_s05_step.pre [WData.int n, WData.int a] = true) (hN : Not h pre) (hd : d = 1 + (pre.length : Int)) (w : Join n a d r b) (e : r = b) (ne : ¬ r = a) (h1 : 1 ≤ n) (a0 : 0 ≤ a) (d1 : 1 ≤ d) (dn : d < n) (r0 : 0 ≤ r) :
    Not h (pre ++ [d]) := by
  intro j j1 j2
  rw [List.length_append, List.length_cons, List.length_nil] at j2
  by_cases c : j < 1 + pre.length
  · exact hN j j1 c
  · have ej : j = d.toNat := by omega
    rw [ej, done w e h1 a0 d1 dn r0, decide_eq_false ne]
theorem step_def (n a : Int) : PySv63.step n a = Sv63Neutral.on (Sv63.good n a.toNat) true fun _ => match Sv63Neutral.stepOf n.toNat a.toNat with
    | some d => [(d : Int)]
    | none => [-5] := rfl
theorem end_step {n a : Int} {l : List Int} (h : l = PySv63.step n a) : l = Codec.app PySem.Challenge.rw_remaindersums_s05_step.args PySem.Challenge.rw_remaindersums_s05_step.f (n, a, ()) := h
theorem step_no {n a : Int} (h : n < 1 ∨ 64 < n) : [-2] = PySv63.step n a := by
  rw [step_def, good_no h]
  rfl
theorem step_noa {n a : Int} (h : a.fdiv (2 ^ n.toNat) ≠ 0) (h1 : ¬ n < 1) (ha : 0 ≤ a) : [-2] = PySv63.step n a := by
  rw [step_def, good_big (by omega) ha h]
  rfl
theorem step_yes {n a : Int} (h1 : 1 ≤ n) (h64 : n ≤ 64) (ha : 0 ≤ a) (h : a.fdiv (2 ^ n.toNat) = 0) : PySv63.step n a = match (if Sv63.many n.toNat a.toNat < 2 then none else ((List.range n.toNat).drop 1).find? (stepAt n.toNat a.toNat)) with
    | some d => [(d : Int)]
    | none => [-5] := by
  rw [step_def, good_yes h1 h64 ha h, step_eq (by omega) ((wrong_nat h1 ha).mp h)]
  rfl
theorem few_nat {n a : Int} (h1 : 1 ≤ n) (ha : 0 ≤ a) (h : a.fdiv (2 ^ n.toNat) = 0) : Builtin.bitAnd a (a - 1) = 0 ↔ Sv63.many n.toNat a.toNat < 2 := by
  have lt := (wrong_nat h1 ha).mp h
  obtain ⟨A, rfl⟩ := Int.eq_ofNat_of_zero_le ha
  rw [Int.toNat_natCast] at lt ⊢
  by_cases c : A = 0
  · subst c
    have e : Sv63.many n.toNat 0 = 0 := by
      unfold Sv63.many Sv63.has
      simp
    rw [e]
    constructor
    · intro _; decide
    · intro _; decide
  · have e1 : (A : Int) - 1 = ((A - 1 : Nat) : Int) := by omega
    rw [e1, and_nat, ← many_two lt (by omega)]
    omega
theorem step_few {n a : Int} (h1 : 1 ≤ n) (h64 : n ≤ 64) (ha : 0 ≤ a) (h : a.fdiv (2 ^ n.toNat) = 0) (c : Builtin.bitAnd a (a - 1) = 0) : [-5] = PySv63.step n a := by
  rw [step_yes h1 h64 ha h, if_pos ((few_nat h1 ha h).mp c)]
theorem step_none {n a : Int} (hp : PySem.Challenge.rw_remaindersums_s05_step.pre [WData.int n, WData.int a] = true) (w : Not hp (rangeKs 1 (n - 1).toNat)) (h : a.fdiv (2 ^ n.toNat) = 0) (c : ¬ Builtin.bitAnd a (a - 1) = 0) (h1 : 1 ≤ n) (h64 : n ≤ 64) (ha : 0 ≤ a) : [-5] = PySv63.step n a := by
  rw [step_yes h1 h64 ha h, if_neg (fun q => c ((few_nat h1 ha h).mpr q)), find_from_none]
  intro j j1 j2
  refine w j j1 ?_
  rw [rangeKs_length]
  omega
theorem step_some {n a d r b : Int} {pre : List Int} (hp : PySem.Challenge.rw_remaindersums_s05_step.pre [WData.int n, WData.int a] = true) (hN : Not hp pre) (hd : d = 1 + (pre.length : Int)) (w : Join n a d r b) (e : r = b) (er : r = a) (h : a.fdiv (2 ^ n.toNat) = 0) (c : ¬ Builtin.bitAnd a (a - 1) = 0) (h1 : 1 ≤ n) (h64 : n ≤ 64) (ha : 0 ≤ a) (dn : d < n) (r0 : 0 ≤ r) : [d] = PySv63.step n a := by
  have hs := done w e h1 ha (by omega) dn r0
  rw [decide_eq_true er] at hs
  rw [step_yes h1 h64 ha h, if_neg (fun q => c ((few_nat h1 ha h).mpr q)), find_from (k := d.toNat) (by omega) (by omega) hs (fun j j1 j2 => hN j j1 (by omega))]
  show [d] = [((d.toNat : Nat) : Int)]
  rw [Int.toNat_of_nonneg (by omega)]
end RS
set_option maxRecDepth 100000 in
set_option maxHeartbeats 8000000 in
theorem PySem.Challenge.cw_remaindersums_s05_step_holds : PySem.Challenge.rw_remaindersums_s05_step.Holds := by
  k_with "state" => first
    | exact RS.startN _
    | exact RS.turnJ (by assumption) (by omega) (by omega) (by omega) (by omega) (by omega) (by omega) (by omega)
    | exact RS.startJ (by assumption) (by assumption) (by assumption) (by omega) (by omega) (by omega) (by omega)
    | exact RS.turnN' _ (by assumption) (by omega) (by assumption) (by omega) (by omega) (by omega) (by omega) (by omega) (by omega) (by omega)
  k_with "measure" => exact RS.fallJ (by assumption) (by assumption) (by omega) (by omega) (by omega) (by omega) (by omega) (by omega)
  k_with "exec While Compare cons nil" => k_while_given ["n", "a", "d"] (fun n a d _ r b => 1 ≤ n ∧ n ≤ 64 ∧ 0 ≤ a ∧ a ≤ 18446744073709551615 ∧ 1 ≤ d ∧ d < n ∧ 0 ≤ r ∧ r ≤ a ∧ RS.Join n a d r b) (fun n a d _ r b => 2 * (a - r).toNat + (if r = b then 0 else 1)) "reached" "before"
  k_with "pyIter ref" => (k_of "d" => k_search (fun pre => RS.Not (by assumption) pre))
  open_ks with [.int 0, .int 0]
  all_goals
    obtain ⟨q1, q2⟩ := RS.dec_cons (os_pre_isSome hpre)
    obtain ⟨e1, lo1, hi1⟩ := RS.dec_int q1
    obtain ⟨e2, lo2, hi2⟩ := RS.dec_int q2
    refine os_post (RS.dec_join e1 e2) ?_
  all_goals first
    | exact RS.same_one (RS.end_step (RS.step_no (by omega)))
    | exact RS.same_one (RS.end_step (RS.step_noa (by assumption) (by omega) (by omega)))
    | exact RS.same_one (RS.end_step (RS.step_few (by omega) (by omega) (by omega) (by assumption) (by assumption)))
    | exact RS.same_one (RS.end_step (RS.step_none _ (by assumption) (by assumption) (by assumption) (by omega) (by omega) (by omega)))
    | exact RS.same_one (RS.end_step (RS.step_some _ (by assumption) (by omega) (by assumption) (by omega) (by omega) (by assumption) (by assumption) (by omega) (by omega) (by omega) (by omega) (by omega)))
#print axioms PySem.Challenge.cw_remaindersums_s05_step_holds
