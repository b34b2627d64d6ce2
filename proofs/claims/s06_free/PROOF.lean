import PyProof.Rows.All
import KE.OsGo
import PySem.Challenge.RW_remaindersums_s06_free
set_option Elab.async false
namespace RS
open Sv63
theorem setOf_succ (N : Nat) (p : Nat → Bool) : setOf (N + 1) p = setOf N p + (if p N = true then 2 ^ N else 0) := by
  unfold setOf remainders
  rw [List.range_succ, List.map_append, List.sum_append]
  simp
theorem setOf_lt (N : Nat) (p : Nat → Bool) : setOf N p < 2 ^ N := by
  induction N with
  | zero => simp [setOf, remainders]
  | succ N ih =>
    rw [setOf_succ, Nat.pow_succ]
    split <;> omega
theorem bit_high {a N z : Nat} (h : a < 2 ^ N) (hz : N ≤ z) : a.testBit z = false :=
  Nat.testBit_lt_two_pow (Nat.lt_of_lt_of_le h (Nat.pow_le_pow_right (by decide) hz))
theorem setOf_bit (N : Nat) (p : Nat → Bool) (z : Nat) : (setOf N p).testBit z = (decide (z < N) && p z) := by
  induction N with
  | zero => simp [setOf, remainders]
  | succ N ih =>
    rw [setOf_succ]
    by_cases hz : z < N
    · have e : decide (z < N + 1) = decide (z < N) := by simp [hz]; omega
      rw [e, ← ih]
      split
      · rw [Nat.add_comm, Nat.testBit_two_pow_add_gt hz]
      · rw [Nat.add_zero]
    · by_cases hzN : z = N
      · subst hzN
        have f := Nat.testBit_lt_two_pow (setOf_lt z p)
        by_cases hp : p z = true
        · rw [if_pos hp, Nat.add_comm, Nat.testBit_two_pow_add_eq, f, hp]
          simp
        · rw [if_neg hp, Nat.add_zero, f]
          simp [hp]
      · have l : setOf N p + (if p N = true then 2 ^ N else 0) < 2 ^ (N + 1) := by
          rw [← setOf_succ]
          exact setOf_lt _ _
        rw [bit_high l (by omega)]
        have : decide (z < N + 1) = false := by simp; omega
        rw [this, Bool.false_and]
theorem set_ext {N a : Nat} {p : Nat → Bool} (h : a < 2 ^ N) (hb : ∀ z, z < N → a.testBit z = p z) : a = setOf N p := by
  refine Nat.eq_of_testBit_eq fun z => ?_
  rw [setOf_bit]
  by_cases hz : z < N
  · rw [hb z hz]
    simp [hz]
  · rw [bit_high h (by omega)]
    simp [hz]
theorem mod_cases {x N : Nat} (h : x < 2 * N) : x % N = if x < N then x else x - N := by
  split
  · rename_i h1
    exact Nat.mod_eq_of_lt h1
  · rename_i h1
    rw [Nat.mod_eq_sub_mod (by omega)]
    exact Nat.mod_eq_of_lt (by omega)
def movedN (N A h : Nat) : Nat := ((A * 2 ^ h) ||| (A / 2 ^ (N - h))) &&& (2 ^ N - 1)
theorem moved_lt (N A h : Nat) : movedN N A h < 2 ^ N := by
  unfold movedN
  rw [Nat.and_two_pow_sub_one_eq_mod]
  exact Nat.mod_lt _ (Nat.two_pow_pos N)
theorem moved_bit {N A h z : Nat} (hA : A < 2 ^ N) (hh : h < N) (hz : z < N) : (movedN N A h).testBit z = A.testBit (if h ≤ z then z - h else z + N - h) := by
  unfold movedN
  rw [Nat.testBit_and, Nat.testBit_two_pow_sub_one, Nat.testBit_or, ← Nat.shiftLeft_eq, ← Nat.shiftRight_eq_div_pow, Nat.testBit_shiftLeft, Nat.testBit_shiftRight]
  split
  · rename_i h1
    rw [bit_high hA (show N ≤ N - h + z by omega)]
    simp [h1, hz]
  · rename_i h1
    have e : N - h + z = z + N - h := by omega
    rw [e]
    simp [h1, hz]
def addedN (N A B : Nat) : Nat := (List.range N).foldl (fun t h => if B.testBit h = true then t ||| movedN N A h else t) 0
theorem fold_lt {N : Nat} {c : Nat → Bool} {f : Nat → Nat} (hf : ∀ h, f h < 2 ^ N) : ∀ (l : List Nat) (t : Nat), t < 2 ^ N → l.foldl (fun t h => if c h = true then t ||| f h else t) t < 2 ^ N
  | [], t, ht => ht
  | x :: r, t, ht => by
    rw [List.foldl_cons]
    refine fold_lt hf r _ ?_
    split
    · exact Nat.or_lt_two_pow ht (hf x)
    · exact ht
theorem fold_bit {c : Nat → Bool} {f : Nat → Nat} {z : Nat} : ∀ (l : List Nat) (t : Nat), (l.foldl (fun t h => if c h = true then t ||| f h else t) t).testBit z = (t.testBit z || l.any fun h => c h && (f h).testBit z)
  | [], t => by simp
  | x :: r, t => by
    rw [List.foldl_cons, fold_bit r, List.any_cons]
    by_cases h : c x = true
    · rw [if_pos h, Nat.testBit_or, h, Bool.true_and, Bool.or_assoc]
    · rw [if_neg h]
      simp [h]
theorem added_lt (N A B : Nat) : addedN N A B < 2 ^ N := fold_lt (moved_lt N A) _ _ (Nat.two_pow_pos N)
theorem added_eq {N A B : Nat} (hA : A < 2 ^ N) : addedN N A B = sums N A B := by
  refine set_ext (added_lt N A B) fun z hz => ?_
  unfold addedN
  rw [fold_bit, Nat.zero_testBit, Bool.false_or, Bool.eq_iff_iff]
  simp only [remainders, has, List.any_eq_true, List.mem_range, Bool.and_eq_true, beq_iff_eq]
  constructor
  · rintro ⟨h, hh, hB, hm⟩
    rw [moved_bit hA hh hz] at hm
    refine ⟨if h ≤ z then z - h else z + N - h, by split <;> omega, hm, h, hh, hB, ?_⟩
    by_cases c : h ≤ z
    · rw [if_pos c, mod_cases (by omega)]
      split <;> omega
    · rw [if_neg c, mod_cases (by omega)]
      split <;> omega
  · rintro ⟨x, hx, hA', y, hy, hB, hs⟩
    refine ⟨y, hy, hB, ?_⟩
    rw [moved_bit hA hy hz]
    rw [mod_cases (by omega)] at hs
    have e : (if y ≤ z then z - y else z + N - y) = x := by
      split <;> split at hs <;> omega
    rw [e]
    exact hA'
theorem sums_lt (N A B : Nat) : sums N A B < 2 ^ N := setOf_lt _ _
theorem often_lt {N A k : Nat} (hN : 1 ≤ N) : often N A k < 2 ^ N := by
  cases k with
  | zero =>
    show 1 < 2 ^ N
    exact Nat.lt_of_lt_of_le (show 1 < 2 ^ 1 by decide) (Nat.pow_le_pow_right (by decide) hN)
  | succ k => exact sums_lt _ _ _
def oftenN (N A k : Nat) : Nat := (List.range k).foldl (fun t _ => addedN N t A) 1
theorem often_eq {N A : Nat} (hN : 1 ≤ N) : ∀ k, oftenN N A k = often N A k
  | 0 => rfl
  | k + 1 => by
    have e : oftenN N A (k + 1) = addedN N (oftenN N A k) A := by
      unfold oftenN
      rw [List.range_succ, List.foldl_append]
      rfl
    rw [e, often_eq hN k, added_eq (often_lt hN)]
    rfl
theorem many_sum (N A : Nat) : ((List.range N).map fun x => A / 2 ^ x % 2).sum = many N A := by
  unfold many remainders
  induction N with
  | zero => rfl
  | succ N ih =>
    rw [List.range_succ, List.map_append, List.sum_append, ih, List.filter_append, List.length_append]
    have : ([N].map fun x => A / 2 ^ x % 2).sum = ([N].filter fun x => has A x).length := by
      unfold has
      rw [List.map_cons, List.map_nil, List.sum_cons, List.sum_nil, List.filter_cons, Nat.testBit_eq_decide_div_mod_eq]
      by_cases h : A / 2 ^ N % 2 = 1
      · simp [h]
      · have : A / 2 ^ N % 2 = 0 := by omega
        simp [this]
    rw [this]
end RS

namespace RS
open Sv63
/-! What the specification says of two, still, step, free, some and just, bit by bit -/
theorem two_bit (N A z : Nat) : (two N A).testBit z = true ↔ z < N ∧ ∃ x, x < N ∧ A.testBit x = true ∧ ∃ y, y < N ∧ A.testBit y = true ∧ x ≠ y ∧ (x + y) % N = z := by
  unfold two
  rw [setOf_bit]
  simp only [remainders, has, Bool.and_eq_true, decide_eq_true_eq, List.any_eq_true, List.mem_range, bne_iff_ne, beq_iff_eq]
theorem two_lt (N A : Nat) : two N A < 2 ^ N := setOf_lt _ _
theorem bits_lt {N A x : Nat} (h : A < 2 ^ N) (hx : A.testBit x = true) : x < N := by
  refine Nat.lt_of_not_le fun q => ?_
  rw [bit_high h q] at hx
  exact Bool.noConfusion hx
/-- a set moved: the specification's and the program's -/
theorem moved_eq {N A h : Nat} (hA : A < 2 ^ N) (hh : h < N) : movedN N A h = moved N A h := by
  refine set_ext (moved_lt N A h) fun z hz => ?_
  rw [moved_bit hA hh hz, Bool.eq_iff_iff]
  simp only [remainders, has, List.any_eq_true, List.mem_range, Bool.and_eq_true, beq_iff_eq]
  constructor
  · intro hm
    refine ⟨if h ≤ z then z - h else z + N - h, by split <;> omega, hm, ?_⟩
    by_cases c : h ≤ z
    · rw [if_pos c, mod_cases (by omega)]
      split <;> omega
    · rw [if_neg c, mod_cases (by omega)]
      split <;> omega
  · rintro ⟨x, hx, hA', hs⟩
    rw [mod_cases (by omega)] at hs
    have e : (if h ≤ z then z - h else z + N - h) = x := by
      split <;> split at hs <;> omega
    rw [e]
    exact hA'
theorem still_bit {N A h : Nat} (hA : A < 2 ^ N) (hh : h < N) : (still N A).testBit h = decide (movedN N A h = A) := by
  unfold still
  rw [setOf_bit, moved_eq hA hh]
  simp [hh]
  rfl
theorem still_lt (N A : Nat) : still N A < 2 ^ N := setOf_lt _ _
/-- the first of a search over a range -/
theorem find_range {p : Nat → Bool} {m k : Nat} (hk : k < m) (hp : p k = true) (hl : ∀ j, j < k → p j = false) : (List.range m).find? p = some k := by
  rw [List.find?_range_eq_some]
  refine ⟨hp, List.mem_range.mpr hk, fun j hj => ?_⟩
  rw [hl j hj]
  rfl
theorem find_range_none {p : Nat → Bool} {m : Nat} (hl : ∀ j, j < m → p j = false) : (List.range m).find? p = none := by
  rw [List.find?_range_eq_none]
  intro j hj
  rw [hl j hj]
  rfl
/-- the best of a search over a range: the first of the most -/
def bestTo (n : Nat) (P : Nat → Bool) (m : Nat) : Nat := (List.range m).foldl (fun (w s : Nat) => if Sv63.many n w < Sv63.many n s ∧ P s = true then s else w) 0
theorem bestTo_succ (n : Nat) (P : Nat → Bool) (m : Nat) : bestTo n P (m + 1) = if Sv63.many n (bestTo n P m) < Sv63.many n m ∧ P m = true then m else bestTo n P m := by
  unfold bestTo
  rw [List.range_succ, List.foldl_append]
  rfl
theorem free_best (n : Nat) : Sv63Neutral.freeOf n = bestTo n (Sv63Neutral.isFree n) (2 ^ n) := rfl
end RS

namespace RS
open Sv63
theorem one_bit {x y : Nat} : (2 ^ x).testBit y = decide (x = y) := Nat.testBit_two_pow
def twoN (N A : Nat) : Nat := (List.range N).foldl (fun t x => if A.testBit x = true then t ||| movedN N (A ^^^ 2 ^ x) x else t) 0
theorem two_eq {N A : Nat} (hA : A < 2 ^ N) : twoN N A = two N A := by
  refine Nat.eq_of_testBit_eq fun z => ?_
  by_cases hz : z < N
  · unfold twoN
    rw [fold_bit, Nat.zero_testBit, Bool.false_or, Bool.eq_iff_iff, two_bit]
    simp only [List.any_eq_true, List.mem_range, Bool.and_eq_true]
    constructor
    · rintro ⟨h, hh, hB, hm⟩
      have hx : A ^^^ 2 ^ h < 2 ^ N := Nat.xor_lt_two_pow hA (Nat.pow_lt_pow_right (by decide) hh)
      rw [moved_bit hx hh hz, Nat.testBit_xor, one_bit] at hm
      refine ⟨hz, if h ≤ z then z - h else z + N - h, by split <;> omega, ?_, h, hh, hB, ?_, ?_⟩
      · by_cases e : h = (if h ≤ z then z - h else z + N - h)
        · rw [← e]
          exact hB
        · rw [decide_eq_false e, Bool.xor_false] at hm
          exact hm
      · intro e
        rw [e, decide_eq_true rfl, hB] at hm
        exact Bool.noConfusion hm
      · by_cases c : h ≤ z
        · rw [if_pos c, mod_cases (by omega)]
          split <;> omega
        · rw [if_neg c, mod_cases (by omega)]
          split <;> omega
    · rintro ⟨_, x, hx, hA', y, hy, hB, hne, hs⟩
      refine ⟨y, hy, hB, ?_⟩
      have hq : A ^^^ 2 ^ y < 2 ^ N := Nat.xor_lt_two_pow hA (Nat.pow_lt_pow_right (by decide) hy)
      rw [moved_bit hq hy hz, Nat.testBit_xor, one_bit]
      rw [mod_cases (by omega)] at hs
      have e : (if y ≤ z then z - y else z + N - y) = x := by
        split <;> split at hs <;> omega
      rw [e, hA', decide_eq_false (fun q => hne q.symm)]
      rfl
  · rw [bit_high (two_lt N A) (by omega)]
    exact bit_high (fold_lt (f := fun x => movedN N (A ^^^ 2 ^ x) x) (fun h => moved_lt N _ h) _ _ (Nat.two_pow_pos N)) (by omega)
def stillN (N A : Nat) : Nat := (List.range N).foldl (fun t h => if decide (movedN N A h = A) = true then t ||| 2 ^ h else t) 0
theorem fold_lt' {N : Nat} {c : Nat → Bool} {f : Nat → Nat} : ∀ (l : List Nat) (t : Nat), (∀ h ∈ l, f h < 2 ^ N) → t < 2 ^ N → l.foldl (fun t h => if c h = true then t ||| f h else t) t < 2 ^ N
  | [], t, _, ht => ht
  | x :: r, t, hf, ht => by
    rw [List.foldl_cons]
    refine fold_lt' r _ (fun h q => hf h (List.mem_cons_of_mem _ q)) ?_
    split
    · exact Nat.or_lt_two_pow ht (hf x (List.mem_cons_self ..))
    · exact ht
theorem still_eq {N A : Nat} (hA : A < 2 ^ N) : stillN N A = still N A := by
  refine Nat.eq_of_testBit_eq fun z => ?_
  by_cases hz : z < N
  · unfold stillN
    rw [fold_bit, Nat.zero_testBit, Bool.false_or, still_bit hA hz, Bool.eq_iff_iff]
    simp only [List.any_eq_true, List.mem_range, Bool.and_eq_true, one_bit, decide_eq_true_eq]
    constructor
    · rintro ⟨h, hh, hm, rfl⟩
      exact hm
    · intro h
      exact ⟨z, hz, h, rfl⟩
  · rw [bit_high (still_lt N A) (by omega)]
    refine bit_high (fold_lt' (f := fun x => 2 ^ x) _ _ (fun h q => ?_) (Nat.two_pow_pos N)) (show N ≤ z by omega)
    exact Nat.pow_lt_pow_right (by decide) (List.mem_range.mp q)
end RS

namespace RS
open Sv63
/-! Pigeonholes, and a set as the list of its members -/
theorem len_sub : ∀ {l f : List Nat}, l.Nodup → (∀ x ∈ l, x ∈ f) → l.length ≤ f.length
  | [], _, _, _ => Nat.zero_le _
  | x :: r, f, hn, hs => by
    have hx := hs x (List.mem_cons_self ..)
    have hr : ∀ y ∈ r, y ∈ f.erase x := by
      intro y hy
      have ne : y ≠ x := by
        intro e
        subst e
        exact (List.nodup_cons.mp hn).1 hy
      exact (List.mem_erase_of_ne ne).mpr (hs y (List.mem_cons_of_mem _ hy))
    have h := len_sub (List.nodup_cons.mp hn).2 hr
    rw [List.length_erase_of_mem hx] at h
    have p : 0 < f.length := List.length_pos_of_mem hx
    rw [List.length_cons]
    omega
theorem sub_full {l f : List Nat} (hl : l.Nodup) (hs : ∀ x ∈ l, x ∈ f) (hf : f.length ≤ l.length) : ∀ x ∈ f, x ∈ l := by
  intro x hx
  apply Classical.byContradiction
  intro hn
  have h := len_sub (l := x :: l) (f := f) (List.nodup_cons.mpr ⟨hn, hl⟩) (by
    intro y hy
    rcases List.mem_cons.mp hy with e | e
    · rw [e]; exact hx
    · exact hs y e)
  rw [List.length_cons] at h
  omega
theorem nodup_of_len : ∀ {l f : List Nat}, f.Nodup → (∀ x ∈ f, x ∈ l) → l.length ≤ f.length → l.Nodup
  | [], _, _, _, _ => List.nodup_nil
  | x :: r, f, hf, hs, hl => by
    rw [List.length_cons] at hl
    have nx : x ∉ r := by
      intro hx
      have h := len_sub (l := f) (f := r) hf (by
        intro y hy
        rcases List.mem_cons.mp (hs y hy) with e | e
        · rw [e]; exact hx
        · exact e)
      omega
    refine List.nodup_cons.mpr ⟨nx, nodup_of_len (f := f.erase x) (List.Nodup.erase _ hf) ?_ ?_⟩
    · intro y hy
      have hy' := List.mem_of_mem_erase hy
      have ne : y ≠ x := fun e => (List.Nodup.not_mem_erase hf) (e ▸ hy)
      rcases List.mem_cons.mp (hs y hy') with e | e
      · exact absurd e ne
      · exact e
    · rw [List.length_erase]
      split <;> omega
def bits (n s : Nat) : List Nat := (List.range n).filter fun x => s.testBit x
theorem bits_len (n s : Nat) : (bits n s).length = many n s := rfl
theorem bits_nodup (n s : Nat) : (bits n s).Nodup := List.Pairwise.filter _ List.nodup_range
theorem mem_bits {n s x : Nat} : x ∈ bits n s ↔ x < n ∧ s.testBit x = true := by
  unfold bits
  rw [List.mem_filter, List.mem_range]
def orMask (l : List Nat) : Nat := l.foldl (fun m x => m ||| 2 ^ x) 0
theorem or_bit : ∀ (l : List Nat) (t z : Nat), (l.foldl (fun m x => m ||| 2 ^ x) t).testBit z = true ↔ t.testBit z = true ∨ z ∈ l
  | [], t, z => by simp
  | x :: r, t, z => by
    rw [List.foldl_cons, or_bit r, Nat.testBit_or, Bool.or_eq_true, one_bit, decide_eq_true_eq, List.mem_cons]
    constructor
    · rintro ((h | h) | h)
      · exact Or.inl h
      · exact Or.inr (Or.inl h.symm)
      · exact Or.inr (Or.inr h)
    · rintro (h | h | h)
      · exact Or.inl (Or.inl h)
      · exact Or.inl (Or.inr h.symm)
      · exact Or.inr h
theorem orMask_bit (l : List Nat) (z : Nat) : (orMask l).testBit z = true ↔ z ∈ l := by
  unfold orMask
  rw [or_bit]
  simp
/-- a list of as many as the set has: it makes the set just if all lie in it and are different -/
theorem mask_iff {n s : Nat} {l : List Nat} (hs : s < 2 ^ n) (hl : l.length = many n s) (hn : ∀ x ∈ l, x < n) : orMask l = s ↔ (∀ x ∈ l, s.testBit x = true) ∧ l.Nodup := by
  constructor
  · intro h
    have hin : ∀ x ∈ l, s.testBit x = true := by
      intro x hx
      rw [← h]
      exact (orMask_bit l x).mpr hx
    refine ⟨hin, nodup_of_len (bits_nodup n s) ?_ (by rw [bits_len, hl]; exact Nat.le_refl _)⟩
    intro x hx
    have := (mem_bits.mp hx).2
    rw [← h] at this
    exact (orMask_bit l x).mp this
  · rintro ⟨hin, hd⟩
    refine Nat.eq_of_testBit_eq fun z => ?_
    rw [Bool.eq_iff_iff, orMask_bit]
    constructor
    · exact hin z
    · intro hz
      have hb : z ∈ bits n s := mem_bits.mpr ⟨bits_lt hs hz, hz⟩
      refine sub_full hd (fun x hx => mem_bits.mpr ⟨hn x hx, hin x hx⟩) (by rw [bits_len, hl]; exact Nat.le_refl _) z hb
/-- s, s + d, ..: k of them -/
def prog (n o d k : Nat) : List Nat := (List.range k).map fun i => (o + i * d) % n
theorem prog_len (n o d k : Nat) : (prog n o d k).length = k := by
  unfold prog
  rw [List.length_map, List.length_range]
theorem prog_lt {n o d k : Nat} (hn : 0 < n) : ∀ x ∈ prog n o d k, x < n := by
  unfold prog
  intro x hx
  obtain ⟨i, _, rfl⟩ := List.mem_map.mp hx
  exact Nat.mod_lt _ hn
def stepAt (n s d : Nat) : Bool := (List.range n).any fun o => decide (orMask (prog n o d (many n s)) = s)
theorem step_eq {n s : Nat} (hn : 0 < n) (hs : s < 2 ^ n) : Sv63Neutral.stepOf n s = if many n s < 2 then none else ((List.range n).drop 1).find? (stepAt n s) := by
  unfold Sv63Neutral.stepOf
  have e : (fun (d : Nat) => (List.range n).any fun (o : Nat) => let l := (List.range (many n s)).map fun (i : Nat) => (o + i * d) % n
      l.all (fun (x : Nat) => s.testBit x) && decide l.Nodup) = stepAt n s := by
    funext d
    unfold stepAt
    congr 1
    funext o
    rw [Bool.eq_iff_iff, decide_eq_true_eq, mask_iff hs (prog_len ..) (prog_lt hn)]
    show ((prog n o d (many n s)).all (fun x => s.testBit x) && decide (prog n o d (many n s)).Nodup) = true ↔ _
    rw [Bool.and_eq_true, List.all_eq_true, decide_eq_true_eq]
  show (if many n s < 2 then none else ((List.range n).drop 1).find? (fun (d : Nat) => (List.range n).any fun (o : Nat) => let l := (List.range (many n s)).map fun (i : Nat) => (o + i * d) % n
      l.all (fun (x : Nat) => s.testBit x) && decide l.Nodup)) = _
  rw [e]
/-- the least of a search that begins at 1 -/
theorem find_from {p : Nat → Bool} {n k : Nat} (h1 : 1 ≤ k) (hk : k < n) (hp : p k = true) (hl : ∀ j, 1 ≤ j → j < k → p j = false) : ((List.range n).drop 1).find? p = some k := by
  have e : ((List.range n).drop 1) = (List.range (n - 1)).map (· + 1) := by
    cases n with
    | zero => omega
    | succ n => rw [List.range_succ_eq_map]; rfl
  rw [e, List.find?_map, find_range (k := k - 1) (by omega)]
  · simp; omega
  · show p (k - 1 + 1) = true
    have : k - 1 + 1 = k := by omega
    rw [this]
    exact hp
  · intro j hj
    exact hl (j + 1) (by omega) (by omega)
theorem find_from_none {p : Nat → Bool} {n : Nat} (hl : ∀ j, 1 ≤ j → j < n → p j = false) : ((List.range n).drop 1).find? p = none := by
  rw [List.find?_eq_none]
  intro x hx
  have hx' : x ∈ List.range n := List.mem_of_mem_drop hx
  have h0 : 1 ≤ x := by
    have e : ((List.range n).drop 1) = (List.range (n - 1)).map (· + 1) := by
      cases n with
      | zero => rfl
      | succ n => rw [List.range_succ_eq_map]; rfl
    rw [e] at hx
    obtain ⟨i, _, rfl⟩ := List.mem_map.mp hx
    omega
  rw [hl x h0 (List.mem_range.mp hx')]
  exact Bool.noConfusion
/-- none of it is a sum of two of it -/
theorem sums_bit (N A B z : Nat) : (sums N A B).testBit z = true ↔ z < N ∧ ∃ x, x < N ∧ A.testBit x = true ∧ ∃ y, y < N ∧ B.testBit y = true ∧ (x + y) % N = z := by
  unfold sums
  rw [setOf_bit]
  simp only [remainders, has, Bool.and_eq_true, decide_eq_true_eq, List.any_eq_true, List.mem_range, beq_iff_eq]
theorem free_iff {n s : Nat} : Sv63Neutral.isFree n s = true ↔ ∀ x, x < n → s.testBit x = true → ∀ y, y < n → s.testBit y = true → s.testBit ((x + y) % n) = false := by
  unfold Sv63Neutral.isFree
  simp only [List.all_eq_true, List.mem_range, Bool.or_eq_true, Bool.not_eq_true']
  constructor
  · intro h x hx ex y hy ey
    rcases h x hx with q | q
    · rw [ex] at q; exact Bool.noConfusion q
    · rcases q y hy with q | q
      · rw [ey] at q; exact Bool.noConfusion q
      · exact q
  · intro h x hx
    cases ex : s.testBit x with
    | false => exact Or.inl rfl
    | true =>
      refine Or.inr fun y hy => ?_
      cases ey : s.testBit y with
      | false => exact Or.inl rfl
      | true => exact Or.inr (h x hx ex y hy ey)
theorem free_sums {n s : Nat} : Sv63Neutral.isFree n s = true ↔ sums n s s &&& s = 0 := by
  rw [free_iff]
  constructor
  · intro h
    refine Nat.eq_of_testBit_eq fun z => ?_
    rw [Nat.testBit_and, Nat.zero_testBit]
    cases e : (sums n s s).testBit z with
    | false => rfl
    | true =>
      obtain ⟨_, x, hx, ex, y, hy, ey, rfl⟩ := (sums_bit n s s z).mp e
      rw [h x hx ex y hy ey]
      rfl
  · intro h x hx ex y hy ey
    have e : (sums n s s).testBit ((x + y) % n) = true := (sums_bit ..).mpr ⟨Nat.mod_lt _ (by omega), x, hx, ex, y, hy, ey, rfl⟩
    have q : (sums n s s &&& s).testBit ((x + y) % n) = false := by rw [h, Nat.zero_testBit]
    rw [Nat.testBit_and, e, Bool.true_and] at q
    exact q
end RS

namespace RS
open Sv63
/-! free: all sets without a sum of two of theirs, the lesser mask first, and the first of the most -/
theorem free_sub {N a b : Nat} (h : ∀ z, a.testBit z = true → b.testBit z = true) (hb : Sv63Neutral.isFree N b = true) : Sv63Neutral.isFree N a = true := by
  rw [free_iff] at hb ⊢
  intro x hx ex y hy ey
  cases e : a.testBit ((x + y) % N) with
  | false => rfl
  | true =>
    have q := hb x hx (h x ex) y hy (h y ey)
    rw [h _ e] at q
    exact Bool.noConfusion q
theorem free_zero (N : Nat) : Sv63Neutral.isFree N 0 = true := by
  rw [free_iff]
  intro x _ ex
  rw [Nat.zero_testBit] at ex
  exact Bool.noConfusion ex
def freeTo (N j : Nat) : List Nat := (List.range (2 ^ j)).filter fun s => Sv63Neutral.isFree N s
theorem freeTo_zero (N : Nat) : freeTo N 0 = [0] := by
  unfold freeTo
  show (List.filter (fun s => Sv63Neutral.isFree N s) [0]) = [0]
  simp [free_zero]
theorem freeTo_len (N j : Nat) : (freeTo N j).length ≤ 2 ^ j := by
  unfold freeTo
  have h := List.length_filter_le (fun s => Sv63Neutral.isFree N s) (List.range (2 ^ j))
  rw [List.length_range] at h
  exact h
theorem freeTo_lt {N j a : Nat} (h : a ∈ freeTo N j) : a < 2 ^ j := by
  unfold freeTo at h
  exact List.mem_range.mp (List.mem_filter.mp h).1
theorem or_top {a j : Nat} (h : a < 2 ^ j) : 2 ^ j + a = a ||| 2 ^ j := by
  have q := Nat.two_pow_add_eq_or_of_lt h 1
  rw [Nat.mul_one] at q
  rw [q, Nat.or_comm]
theorem filter_and {p q : Nat → Bool} (h : ∀ a, q a = true → p a = true) : ∀ l : List Nat, l.filter q = (l.filter p).filter q
  | [] => rfl
  | x :: r => by
    rw [List.filter_cons, List.filter_cons]
    by_cases hq : q x = true
    · rw [if_pos hq, if_pos (h x hq), List.filter_cons, if_pos hq, ← filter_and h r]
    · rw [if_neg hq]
      by_cases hp : p x = true
      · rw [if_pos hp, List.filter_cons, if_neg hq, ← filter_and h r]
      · rw [if_neg hp, ← filter_and h r]
theorem freeTo_succ (N j : Nat) : freeTo N (j + 1) = freeTo N j ++ ((freeTo N j).filter fun a => Sv63Neutral.isFree N (a ||| 2 ^ j)).map (· ||| 2 ^ j) := by
  have e : List.range (2 ^ (j + 1)) = List.range (2 ^ j) ++ (List.range (2 ^ j)).map (2 ^ j + ·) := by
    have : 2 ^ (j + 1) = 2 ^ j + 2 ^ j := by rw [Nat.pow_succ]; omega
    rw [this, List.range_add]
  have e2 : (List.range (2 ^ j)).map (2 ^ j + ·) = (List.range (2 ^ j)).map (· ||| 2 ^ j) :=
    List.map_congr_left fun a ha => or_top (List.mem_range.mp ha)
  unfold freeTo
  rw [e, e2, List.filter_append, List.filter_map]
  congr 2
  exact filter_and (p := fun s => Sv63Neutral.isFree N s) (q := fun a => Sv63Neutral.isFree N (a ||| 2 ^ j)) (fun a h => free_sub (fun z hz => by rw [Nat.testBit_or, hz]; rfl) h) _
/-- the first of the most, how many it has told beside it -/
theorem fold_filter (n : Nat) (P : Nat → Bool) : ∀ (l : List Nat) (w : Nat), l.foldl (fun (w s : Nat) => if many n w < many n s ∧ P s = true then s else w) w = (l.filter P).foldl (fun (w s : Nat) => if many n w < many n s then s else w) w
  | [], _ => rfl
  | x :: r, w => by
    rw [List.foldl_cons, List.filter_cons]
    by_cases hp : P x = true
    · rw [if_pos hp, List.foldl_cons, fold_filter n P r]
      congr 1
      simp [hp]
    · rw [if_neg hp, if_neg (fun q => hp q.2), fold_filter n P r]
theorem many_zero' (n : Nat) : many n 0 = 0 := by
  unfold many has
  simp
theorem free_fold (n : Nat) : Sv63Neutral.freeOf n = (freeTo n n).foldl (fun (w s : Nat) => if many n w < many n s then s else w) 0 := by
  unfold Sv63Neutral.freeOf freeTo
  exact fold_filter n (fun s => Sv63Neutral.isFree n s) _ _
end RS

open PySem PySem.W
namespace RS
theorem and_nat (x y : Nat) : Builtin.bitAnd (x : Int) (y : Int) = ((x &&& y : Nat) : Int) := by
  rw [PyProof.Rows.bitAnd_pp (Int.natCast_nonneg x) (Int.natCast_nonneg y), Int.toNat_natCast, Int.toNat_natCast]
theorem or_add_and : ∀ (k x y : Nat), x < 2 ^ k → x + y = (x ||| y) + (x &&& y)
  | 0, x, y, h => by
    have : x = 0 := by omega
    subst this
    simp
  | k + 1, x, y, h => by
    have ih := or_add_and k (x / 2) (y / 2) (by rw [Nat.pow_succ] at h; omega)
    rw [← Nat.or_div_two, ← Nat.and_div_two] at ih
    have o := @Nat.or_mod_two_eq_one x y
    have a := @Nat.and_mod_two_eq_one x y
    omega
theorem or_nat (x y : Nat) : Builtin.bitOr (x : Int) (y : Int) = ((x ||| y : Nat) : Int) := by
  rw [PyProof.Rows.bitOr_and, and_nat]
  have h := or_add_and x x y Nat.lt_two_pow_self
  omega
theorem pow_nat (k : Nat) : (2 : Int) ^ k = ((2 ^ k : Nat) : Int) := (kbt_cast k).symm
theorem fdiv_nat (x k : Nat) : (x : Int).fdiv (2 ^ k) = ((x / 2 ^ k : Nat) : Int) := by
  rw [pow_nat, Int.fdiv_eq_ediv_of_nonneg _ (Int.natCast_nonneg _), Int.natCast_ediv]
theorem and_one (x : Nat) : Builtin.bitAnd (x : Int) 1 = ((x % 2 : Nat) : Int) := by
  have h := and_nat x 1
  rw [Nat.and_one_is_mod] at h
  exact h
theorem full_nat (N : Nat) : (1 : Int) * 2 ^ N - 1 = ((2 ^ N - 1 : Nat) : Int) := by
  have := Nat.two_pow_pos N
  rw [Int.one_mul, pow_nat]
  omega
theorem mul_nat (x k : Nat) : (x : Int) * 2 ^ k = ((x * 2 ^ k : Nat) : Int) := by
  rw [pow_nat, Int.natCast_mul]
def movedI (n a h : Int) : Int := Builtin.bitAnd (Builtin.bitOr (a * 2 ^ h.toNat) (a.fdiv (2 ^ (n - h).toNat))) (1 * 2 ^ n.toNat - 1)
theorem movedI_nat (N A h : Nat) : movedI (N : Int) (A : Int) (h : Int) = ((movedN N A h : Nat) : Int) := by
  unfold movedI movedN
  have e : ((N : Int) - (h : Int)).toNat = N - h := by omega
  rw [e, Int.toNat_natCast, Int.toNat_natCast, mul_nat, fdiv_nat, full_nat, or_nat, and_nat]
def addedI (n a b : Int) : Int := (rangeKs 0 (n - 0).toNat).foldl (fun a' k' => if Builtin.bitAnd (b.fdiv (2 ^ k'.toNat)) 1 = 1 then Builtin.bitOr a' (movedI n a k') else a') 0
theorem range_nat (N : Nat) : rangeKs 0 ((N : Int) - 0).toNat = (List.range N).map fun (i : Nat) => (i : Int) := by
  unfold rangeKs
  have e : ((N : Int) - 0).toNat = N := by omega
  rw [e]
  refine List.map_congr_left fun i _ => ?_
  omega
theorem bit_nat (B h : Nat) : (Builtin.bitAnd ((B : Int).fdiv (2 ^ (h : Int).toNat)) 1 = 1) ↔ B.testBit h = true := by
  rw [Int.toNat_natCast, fdiv_nat, and_one, Nat.testBit_eq_decide_div_mod_eq, decide_eq_true_eq]
  omega
theorem addedI_nat (N A B : Nat) : addedI (N : Int) (A : Int) (B : Int) = ((addedN N A B : Nat) : Int) := by
  unfold addedI addedN
  rw [range_nat, List.foldl_map]
  have key : ∀ (l : List Nat) (t : Nat), l.foldl (fun (a' : Int) (k' : Nat) => if Builtin.bitAnd ((B : Int).fdiv (2 ^ (k' : Int).toNat)) 1 = 1 then Builtin.bitOr a' (movedI N A k') else a') (t : Int) = ((l.foldl (fun t h => if B.testBit h = true then t ||| movedN N A h else t) t : Nat) : Int) := by
    intro l
    induction l with
    | nil => intro t; rfl
    | cons x r ih =>
      intro t
      rw [List.foldl_cons, List.foldl_cons]
      by_cases h : B.testBit x = true
      · rw [if_pos ((bit_nat B x).mpr h), if_pos h, movedI_nat, or_nat, ih]
      · rw [if_neg (fun q => h ((bit_nat B x).mp q)), if_neg h, ih]
  exact key (List.range N) 0
def manyI (n a : Int) : Int := ((rangeKs 0 (n - 0).toNat).map fun k' => Builtin.bitAnd (a.fdiv (2 ^ k'.toNat)) 1).sum
theorem sum_nat (f : Nat → Nat) : ∀ l : List Nat, (l.map fun i => ((f i : Nat) : Int)).sum = (((l.map f).sum : Nat) : Int)
  | [] => rfl
  | x :: r => by
    rw [List.map_cons, List.sum_cons, List.map_cons, List.sum_cons, sum_nat f r, Int.natCast_add]
theorem manyI_nat (N A : Nat) : manyI (N : Int) (A : Int) = ((Sv63.many N A : Nat) : Int) := by
  unfold manyI
  rw [range_nat, List.map_map, ← many_sum, ← sum_nat]
  congr 1
  refine List.map_congr_left fun i _ => ?_
  show Builtin.bitAnd ((A : Int).fdiv (2 ^ (i : Int).toNat)) 1 = _
  rw [Int.toNat_natCast, fdiv_nat, and_one]
/-- n and a set as the program looks at them -/
theorem wrong_nat {n a : Int} (h1 : 1 ≤ n) (ha : 0 ≤ a) : a.fdiv (2 ^ n.toNat) = 0 ↔ a.toNat < 2 ^ n.toNat := by
  obtain ⟨A, rfl⟩ := Int.eq_ofNat_of_zero_le ha
  rw [fdiv_nat, Int.toNat_natCast]
  have p := Nat.two_pow_pos n.toNat
  constructor
  · intro h
    have h : A / 2 ^ n.toNat = 0 := by omega
    exact Nat.lt_of_div_eq_zero p h
  · intro h
    rw [Nat.div_eq_of_lt h]
    rfl
theorem good_no {n : Int} {a : Nat} (h : n < 1 ∨ 64 < n) : Sv63.good n a = false := by
  unfold Sv63.good Sv63.within
  rcases h with h | h
  · have : decide (1 ≤ n) = false := by simp; omega
    rw [this]; simp
  · have : decide (n ≤ 64) = false := by simp; omega
    rw [this]; simp
theorem good_big {n a : Int} (h1 : 1 ≤ n) (ha : 0 ≤ a) (h : ¬ a.fdiv (2 ^ n.toNat) = 0) : Sv63.good n a.toNat = false := by
  unfold Sv63.good
  have : decide (a.toNat < 2 ^ n.toNat) = false := by
    simp only [decide_eq_false_iff_not]
    exact fun q => h ((wrong_nat h1 ha).mpr q)
  rw [this, Bool.and_false]
theorem good_yes {n a : Int} (h1 : 1 ≤ n) (h64 : n ≤ 64) (ha : 0 ≤ a) (h : a.fdiv (2 ^ n.toNat) = 0) : Sv63.good n a.toNat = true := by
  unfold Sv63.good Sv63.within
  have := (wrong_nat h1 ha).mp h
  simp [this, h1, h64]
end RS

open PySem PySem.W
namespace RS
theorem dec_cons {c : Codec} {cs : List Codec} {d : WData} {ds : List WData} (h : (Codec.decAll (c :: cs) (d :: ds)).isSome = true) :
    (Codec.decAll [c] [d]).isSome = true ∧ (Codec.decAll cs ds).isSome = true := by
  have e : Codec.decAll (c :: cs) (d :: ds) = Codec.both Prod.mk (c.dec d) (Codec.decAll cs ds) := rfl
  have e1 : Codec.decAll [c] [d] = Codec.both Prod.mk (c.dec d) (some ()) := rfl
  rw [e] at h
  rw [e1]
  cases h1 : c.dec d with
  | none =>
    rw [h1] at h
    cases h
  | some a =>
    cases h2 : Codec.decAll cs ds with
    | none =>
      rw [h1, h2] at h
      cases h
    | some r => exact ⟨rfl, rfl⟩
theorem dec_join {c : Codec} {cs : List Codec} {d : WData} {ds : List WData} {a : c.denote} {r : Codec.denoteAll cs} (h1 : Codec.decAll [c] [d] = some (a, ())) (h2 : Codec.decAll cs ds = some r) :
    Codec.decAll (c :: cs) (d :: ds) = some (a, r) := by
  have e : Codec.decAll (c :: cs) (d :: ds) = Codec.both Prod.mk (c.dec d) (Codec.decAll cs ds) := rfl
  have e1 : Codec.decAll [c] [d] = Codec.both Prod.mk (c.dec d) (some ()) := rfl
  rw [e1] at h1
  rw [e, h2]
  cases h3 : c.dec d with
  | none =>
    rw [h3] at h1
    cases h1
  | some b =>
    rw [h3] at h1
    cases h1
    rfl
theorem dec_int {lo hi k : Int} (h : (Codec.decAll [.int lo hi] [WData.int k]).isSome = true) : Codec.decAll [.int lo hi] [WData.int k] = some (k, ()) ∧ lo ≤ k ∧ k ≤ hi := by
  have e : Codec.decAll [.int lo hi] [WData.int k] = Codec.both Prod.mk (if Codec.inInt lo hi k = true then some k else none) (some ()) := rfl
  rw [e] at h ⊢
  cases h1 : Codec.inInt lo hi k with
  | false =>
    rw [h1] at h
    cases h
  | true =>
    unfold Codec.inInt at h1
    simp only [Bool.and_eq_true, decide_eq_true_eq] at h1
    exact ⟨rfl, h1.1, h1.2⟩
theorem same_one {x : Int} {k : List Int} (h : [x] = k) : same (ofPy (PyData.list [PyData.int x])) (WData.list (k.map WData.int)) = true := by
  subst h
  exact same_self _
theorem same_two {x y : Int} {k : List Int} (h : [x, y] = k) : same (ofPy (PyData.list [PyData.int x, PyData.int y])) (WData.list (k.map WData.int)) = true := by
  subst h
  exact same_self _
end RS

open PySem PySem.W PySem.Calls PyProof.Rows PyProof.V PySem.Spec
namespace RS
/-! A for over a range whose own name is a cell, and which binds names anew to lists that a turn makes -/
def LoopC (prog : Program) (w : World) (A : Around) (env : Env) (x : Str) (px : Pos) (body : List Stmt) (Q : Flow → Shared → Prop) (E : Value → Shared → Prop) (it : Value) (s2 : Shared) : Prop :=
  codeAny (model prog w) A (.forLoop (.Name x px) it body [] env) (fun r s' => match r with | .ok f => Q f s' | .error e => cameBackBy (model prog w) A env E e s') s2
section
variable {prog : Program} {w : World} {A : Around} {E : Value → Shared → Prop} {s : Shared} {env : Env} {h0 : Heap} {x : Str} {px pos : Pos} {iter : PySem.Expr} {body : List Stmt} {Q : Flow → Shared → Prop}
theorem for_cell (h : wpAny (model prog w) A (eval iter env) (fun xv s1 => wpAny (model prog w) A (pyIter xv) (fun it s2 => LoopC prog w A env x px body Q E it s2) E s1) E s)
    (hs : ∀ x, foldedSetIterable iter env x = pure x := by intro _; rfl) : wpAny (model prog w) A (exec (.For (.Name x px) iter body [] pos) env) Q E s := wpAny_For h hs

/-- where a turn ends: the state again, and what the loop itself keeps (its iterator, its own cell) still there -/
def NewEnd {σ : Type} (h0 : Heap) (L : Addr) (Led : σ → List (Addr × Obj)) (ps : σ → List (Str × Value)) (Facts : σ → Prop) (m0 : Str → Option Value) (P : σ → Prop) (own : List (Addr × Obj)) (s1 s2 : Shared) : Prop :=
  ∃ (c : σ) (h' : Heap) (tk : Nat) (m' : Str → Option Value) (news' : List (Addr × Obj)), s2 = { s1 with heap := h', toks := tk } ∧ Fr h0 L h' m' ∧ News h0 L h' news' ∧ (∀ p ∈ Led c, p ∈ news') ∧ (∀ p ∈ own, p ∈ news') ∧ Facts c ∧
    (∀ p ∈ ps c, m' p.1 = some p.2) ∧ (∀ z, (∀ p ∈ ps c, z ≠ p.1) → m' z = m0 z) ∧ P c
def NewPost {σ : Type} (h0 : Heap) (L : Addr) (Led : σ → List (Addr × Obj)) (ps : σ → List (Str × Value)) (Facts : σ → Prop) (m0 : Str → Option Value) (P : σ → Prop) (own : List (Addr × Obj)) (s1 : Shared) (Q : Flow → Shared → Prop) (f : Flow) (s2 : Shared) : Prop :=
  match f with
  | .ret v => Q (.ret v) s2
  | .brk => Q .next s2
  | _ => NewEnd h0 L Led ps Facts m0 P own s1 s2
theorem new_end {σ : Type} {L : Addr} {Led : σ → List (Addr × Obj)} {ps : σ → List (Str × Value)} {Facts : σ → Prop} {m0 m' : Str → Option Value} {P : σ → Prop} {own news' : List (Addr × Obj)} {s1 : Shared} {h' : Heap} {tk : Nat} (c : σ)
    (F : Fr h0 L h' m') (hk : ∀ p ∈ ps c, m' p.1 = some p.2) (N : News h0 L h' news') (hn : ∀ p ∈ Led c, p ∈ news') (ho : ∀ p ∈ own, p ∈ news') (hf : Facts c) (hr : ∀ z, (∀ p ∈ ps c, z ≠ p.1) → m' z = m0 z) (hp : P c) :
    NewEnd h0 L Led ps Facts m0 P own s1 { s1 with heap := h', toks := tk } := ⟨c, h', tk, m', news', rfl, F, N, hn, ho, hf, hk, hr, hp⟩
theorem fr_ps {L : Addr} {h : Heap} {ps : List (Str × Value)} {m0 m1 : Str → Option Value} (h1 : ∀ p ∈ ps, m1 p.1 = some p.2) (h2 : ∀ z, (∀ p ∈ ps, z ≠ p.1) → m1 z = m0 z)
    (F : Fr h0 L h m1) : Fr h0 L h (kstB m0 ps) := by
  have em : kstB m0 ps = m1 := by
    funext y
    exact kstB_eq h1 fun hn => (h2 y hn).symm
  rw [em]
  exact F
/-- what no list and no cell is -/
def Kept (o : Obj) : Prop := ∀ f, o.data ≠ .fields f
theorem fr_but {L b : Addr} {h h' : Heap} {m : Str → Option Value} (F : Fr h0 L h m) (hs : Heap.ExtBut b h h') (hb : h0.get? b = none) (hL : L ≠ b) : Fr h0 L h' m :=
  ⟨F.ns.extBut hs hL, fun a o e => hs a o (fun q => by rw [q, hb] at e; cases e) (F.keep a o e), F.above⟩
theorem news_but {L b : Addr} {h h' : Heap} {news : List (Addr × Obj)} (N : News h0 L h news) (hs : Heap.ExtBut b h h') (hb : ∀ p ∈ news, p.1 ≠ b) : News h0 L h' news :=
  fun p hp => ⟨hs _ _ (hb p hp) (N p hp).1, (N p hp).2⟩
theorem ne_iter {h : Heap} {it : Addr} {a b c : Int} (hit : IsRangeIter h it a b c) {q : Addr} {o : Obj} (hq : h.get? q = some o) (hk : Kept o) : q ≠ it := by
  intro e
  rw [e] at hq
  have e2 : some o = some _ := hq.symm.trans hit
  have e3 := Option.some.inj e2
  exact hk _ (by rw [e3])
theorem cell_range {σ : Type} {r cx : Addr} {ox : Obj} {v0 : Option Value} {a0 b0 : Int} {t0 u0 w0 : Tok} {n : Nat} {m0 : Str → Option Value} (Led : σ → List (Addr × Obj)) (ps : σ → List (Str × Value)) (Facts : σ → Prop) (P : List Int → σ → Prop) (c0 : σ)
    (hh : A.handled = none) (hr : IsRange s.heap r a0 b0 1 t0 u0 w0) (hsmall : Builtin.Range.small a0 b0 1 = true) (hn : Builtin.Range.rangeSize a0 b0 1 = (n : Int))
    (hk : env.scope.kind = .function) (hx : env.kindOf x = some .cell) (hc : env.cells.lookup x = some cx)
    (F : Fr h0 env.locals s.heap m0) (hps : ∀ p ∈ ps c0, m0 p.1 = some p.2) (N : News h0 env.locals s.heap ((cx, ox) :: Led c0)) (hox : ox.data = .cell v0) (hf : Facts c0) (hp : P [] c0)
    (hLed : ∀ c, Facts c → ∀ p ∈ Led c, Kept p.2 ∧ (p.1 ≠ cx ∨ ∀ v, p.2.data ≠ .cell v))
    (turn : ∀ (c : σ) (pre : List Int) (k : Int) t h tk o own, k = a0 + (pre.length : Int) → pre.length < n → Facts c → P pre c → o.data = .cell (some (.int k t)) →
      Fr h0 env.locals h (kstB m0 (ps c)) → News h0 env.locals h (Led c ++ (cx, o) :: own) →
      wpAny (model prog w) A (execs body env) (NewPost h0 env.locals Led ps Facts m0 (P (pre ++ [k])) ((cx, o) :: own) { s with heap := h, toks := tk } Q) E { s with heap := h, toks := tk })
    (done : ∀ (c : σ) h tk, Facts c → P (rangeKs a0 n) c → Fr h0 env.locals h (kstB m0 (ps c)) → News h0 env.locals h (Led c) → Q .next { s with heap := h, toks := tk })
    (hE : PassesOwn (model prog w) A env E := by passes_own) :
    wpAny (model prog w) A (pyIter (.ref r)) (fun it s2 => LoopC prog w A env x px body Q E it s2) E s := by
  apply wpAny_pyIter_range hr hsmall
  generalize hit : s.heap.objs.size = it
  have hnew : h0.get? it = none := by rw [← hit]; exact next_is_new F
  have hL : env.locals ≠ it := by rw [← hit]; exact Nat.ne_of_lt F.ns.lt
  have hcxL : cx ≠ env.locals := (N (cx, ox) (.head _)).2.1
  have hcx0 : h0.get? cx = none := (N (cx, ox) (.head _)).2.2
  unfold LoopC
  refine codeAny_forLoop
    (fun j s' => ∃ h' tk m' c o v i, s' = { s with heap := h', toks := tk } ∧ IsRangeIter h' it (a0 + (i : Nat) * 1) ((n : Int) - (i : Nat)) 1 ∧ Fr h0 env.locals h' m' ∧ News h0 env.locals h' ((cx, o) :: Led c) ∧ o.data = .cell v ∧
      (∀ p ∈ ps c, m' p.1 = some p.2) ∧ (∀ z, (∀ p ∈ ps c, z ≠ p.1) → m' z = m0 z) ∧ Facts c ∧ P ((rangeKs a0 n).take i) c ∧ i ≤ n ∧ j = n + 1 - i) ?_ (n + 1) ?_
  · rintro j s' ⟨h', tk, m', c, o, v, i, rfl, hst, F', N', ho, h1, h2, hf', hp', hi, rfl⟩
    have kc : Kept o := by intro f e; rw [ho] at e; cases e
    have hne : ∀ p ∈ (cx, o) :: Led c, p.1 ≠ it := by
      intro p hm
      rcases List.mem_cons.mp hm with rfl | hm'
      · exact ne_iter hst (N' _ (.head _)).1 kc
      · exact ne_iter hst (N' p hm).1 (hLed c hf' p hm').1
    have hci : cx ≠ it := hne (cx, o) (.head _)
    by_cases hlt : i < n
    · refine wpAny_pyNext_range_item hst (by omega) fun h1' hit1 hs1 => ?_
      have F1 := fr_but F' hs1.extBut hnew hL
      have N1 := news_but N' hs1.extBut hne
      refine wpAny_assign_Name (wpAny_storeName_cell hk hx hc ⟨o, (N1 (cx, o) (.head _)).1, ho⟩ fun h2' hc2 hs2 => ?_)
      obtain ⟨o2, hg2, hd2⟩ := hc2
      have F2 := fr_but F1 hs2.extBut hcx0 (Ne.symm hcxL)
      have NL : News h0 env.locals h1' (Led c) := fun p hm => N1 p (.tail _ hm)
      have hLc : ∀ p ∈ Led c, p.1 ≠ cx := by
        intro p hm e
        rcases (hLed c hf' p hm).2 with q | q
        · exact q e
        · have g1 := (NL p hm).1
          rw [e, (N1 (cx, o) (.head _)).1] at g1
          exact q v (by rw [← Option.some.inj g1]; exact ho)
      have N2 := news_but NL hs2.extBut hLc
      have hit2 : IsRangeIter h2' it (a0 + (i : Nat) * 1 + 1) ((n : Int) - (i : Nat) - 1) 1 := (hs2.2 it (Ne.symm hci)).trans hit1
      have hlen : ((rangeKs a0 n).take i).length = i := by rw [List.length_take, rangeKs_length]; omega
      have e1 : a0 + (i : Int) * 1 = a0 + (i : Int) := by omega
      rw [e1] at hd2
      have hkk : (rangeKs a0 n)[i]? = some (a0 + (i : Int)) := by simp [rangeKs, hlt]
      have hs : (rangeKs a0 n).take (i + 1) = (rangeKs a0 n).take i ++ [a0 + (i : Int)] := by simp [List.take_add_one, hkk]
      obtain ⟨io, gi, ei⟩ : ∃ io : Obj, h2'.get? it = some io ∧ ∀ h : Heap, h.get? it = some io → IsRangeIter h it (a0 + (i : Nat) * 1 + 1) ((n : Int) - (i : Nat) - 1) 1 := ⟨_, hit2, fun _ e => e⟩
      have NT : News h0 env.locals h2' (Led c ++ (cx, o2) :: [(it, io)]) := by
        intro p hm
        rcases List.mem_append.mp hm with q | q
        · exact N2 p q
        · rcases List.mem_cons.mp q with rfl | q
          · exact ⟨hg2, hcxL, hcx0⟩
          · rw [List.mem_singleton.mp q]
            exact ⟨gi, Ne.symm hL, hnew⟩
      refine wpAny_passesOwn hE (wpAny_mono (turn c _ _ tk h2' (tk + 1) o2 [(it, io)] (by rw [hlen]) (by rw [hlen]; exact hlt) hf' hp' hd2 (fr_ps h1 h2 F2) NT) (fun f s3 h3 => ?_) fun _ _ e => e)
      have fin : NewEnd h0 env.locals Led ps Facts m0 (P ((rangeKs a0 n).take i ++ [a0 + (i : Int)])) ((cx, o2) :: [(it, io)]) { s with heap := h2', toks := tk + 1 } s3 → ∃ j, j < n + 1 - i ∧ ∃ h' tk m' c o v i, s3 = { s with heap := h', toks := tk } ∧ IsRangeIter h' it (a0 + (i : Nat) * 1) ((n : Int) - (i : Nat)) 1 ∧ Fr h0 env.locals h' m' ∧ News h0 env.locals h' ((cx, o) :: Led c) ∧ o.data = .cell v ∧
          (∀ p ∈ ps c, m' p.1 = some p.2) ∧ (∀ z, (∀ p ∈ ps c, z ≠ p.1) → m' z = m0 z) ∧ Facts c ∧ P ((rangeKs a0 n).take i) c ∧ i ≤ n ∧ j = n + 1 - i := by
        rintro ⟨c3, h3', tk3, m3, news3, rfl, F3, N3, hn3, ho3, hf3, hk3, hr3, hp3⟩
        refine ⟨n + 1 - (i + 1), by omega, h3', tk3, m3, c3, o2, _, i + 1, rfl, ?_, F3, ?_, hd2, hk3, hr3, hf3, by rw [hs]; exact hp3, hlt, rfl⟩
        · have g := ei _ (N3 _ (ho3 (it, io) (.tail _ (.head _)))).1
          have e2 : a0 + ((i + 1 : Nat) : Int) * 1 = a0 + (i : Int) * 1 + 1 := by omega
          have e3 : (n : Int) - ((i + 1 : Nat) : Int) = (n : Int) - (i : Int) - 1 := by omega
          rw [e2, e3]
          exact g
        · intro p hm
          rcases List.mem_cons.mp hm with rfl | hm
          · exact N3 _ (ho3 _ (.head _))
          · exact N3 _ (hn3 p hm)
      cases f with
      | ret v => exact h3
      | brk => exact h3
      | next => exact fin h3
      | cont => exact fin h3
    · obtain rfl : i = n := by omega
      refine wpAny_pyNext_range_end hh hst (by omega) fun h1' hs1 => wpAny_execs_nil ?_
      have F1 := fr_but F' hs1 hnew hL
      have N1 := news_but N' hs1 hne
      have hl : (rangeKs a0 i).take i = rangeKs a0 i := List.take_of_length_le (Nat.le_of_eq (rangeKs_length _ _))
      rw [hl] at hp'
      exact done c h1' tk hf' hp' (fr_ps h1 h2 F1) (fun p hm => N1 p (.tail _ hm))
  · refine ⟨_, _, m0, c0, ox, v0, 0, rfl, ?_, F.push _, ?_, hox, hps, fun _ _ => rfl, hf, by simpa using hp, Nat.zero_le _, rfl⟩
    · rw [← hit, hn]
      simpa using Heap.get?_push_size _ rfl
    · exact fun p hm => ⟨Heap.get?_push_of_some _ (N p hm).1, (N p hm).2⟩
/-- the same where the loop's own name is a local, over a list of ints that the call has made -/
def ListEnd {σ : Type} (h0 : Heap) (L : Addr) (Led : σ → List (Addr × Obj)) (ps : σ → List (Str × Value)) (Facts : σ → Prop) (x : Str) (stored : List Str) (m0 : Str → Option Value) (P : σ → Prop) (own : List (Addr × Obj)) (s1 s2 : Shared) : Prop :=
  ∃ (c : σ) (h' : Heap) (tk : Nat) (m' : Str → Option Value) (news' : List (Addr × Obj)), s2 = { s1 with heap := h', toks := tk } ∧ Fr h0 L h' m' ∧ News h0 L h' news' ∧ (∀ p ∈ Led c, p ∈ news') ∧ (∀ p ∈ own, p ∈ news') ∧ Facts c ∧
    (∀ p ∈ ps c, m' p.1 = some p.2) ∧ (∀ z, z ≠ x → (∀ p ∈ ps c, z ≠ p.1) → stored.contains z = false → m' z = m0 z) ∧ P c
def ListPost {σ : Type} (h0 : Heap) (L : Addr) (Led : σ → List (Addr × Obj)) (ps : σ → List (Str × Value)) (Facts : σ → Prop) (x : Str) (stored : List Str) (m0 : Str → Option Value) (P : σ → Prop) (own : List (Addr × Obj)) (s1 : Shared) (Q : Flow → Shared → Prop) (f : Flow) (s2 : Shared) : Prop :=
  match f with
  | .ret v => Q (.ret v) s2
  | .brk => Q .next s2
  | _ => ListEnd h0 L Led ps Facts x stored m0 P own s1 s2
theorem list_end {σ : Type} {L : Addr} {Led : σ → List (Addr × Obj)} {ps : σ → List (Str × Value)} {Facts : σ → Prop} {stored : List Str} {m0 m' : Str → Option Value} {P : σ → Prop} {own news' : List (Addr × Obj)} {s1 : Shared} {h' : Heap} {tk : Nat} (c : σ)
    (F : Fr h0 L h' m') (hk : ∀ p ∈ ps c, m' p.1 = some p.2) (N : News h0 L h' news') (hn : ∀ p ∈ Led c, p ∈ news') (ho : ∀ p ∈ own, p ∈ news') (hf : Facts c) (hr : ∀ z, z ≠ x → (∀ p ∈ ps c, z ≠ p.1) → stored.contains z = false → m' z = m0 z) (hp : P c) :
    ListEnd h0 L Led ps Facts x stored m0 P own s1 { s1 with heap := h', toks := tk } := ⟨c, h', tk, m', news', rfl, F, N, hn, ho, hf, hk, hr, hp⟩
theorem item_at {vs : List Value} {ns : List Int} {i : Nat} {v : Value} (hi : IntsAre vs ns) (h : i < ns.length) (hv : vs.toArray[i]? = some v) : ∃ t, v = .int ns[i] t := by
  obtain ⟨t, q⟩ := hi.get i ns[i] (List.getElem?_eq_getElem h)
  rw [List.getElem?_toArray, q] at hv
  exact ⟨t, (Option.some.inj hv).symm⟩
theorem take_split (l : List Int) {i : Nat} (h : i < l.length) : l.take (i + 1) = l.take i ++ [l[i]] ∧ l = l.take i ++ l[i] :: l.drop (i + 1) :=
  ⟨List.take_succ_eq_append_getElem h, by rw [← List.drop_eq_getElem_cons h, List.take_append_drop]⟩
theorem new_list {σ : Type} {l : Addr} {ol : Obj} {vs : List Value} {ns : List Int} {m0 : Str → Option Value} (Led : σ → List (Addr × Obj)) (ps : σ → List (Str × Value)) (Facts : σ → Prop) (stored : List Str) (P : List Int → σ → Prop) (c0 : σ)
    (hh : A.handled = none) (hl : s.heap.IsList l vs.toArray) (hi : IntsAre vs ns) (F : Fr h0 env.locals s.heap m0) (hps : ∀ p ∈ ps c0, m0 p.1 = some p.2) (N : News h0 env.locals s.heap ((l, ol) :: Led c0)) (hf : Facts c0) (hp : P [] c0)
    (hLed : ∀ c, Facts c → ∀ p ∈ Led c, Kept p.2)
    (turn : ∀ (c : σ) pre post n t (u : Str → Option Value) h tk own, ns = pre ++ n :: post → n ∈ ns → Facts c → P pre c →
      Fr h0 env.locals h (fun y => if y = x then some (.int n t) else kstB (fun z => if stored.contains z then u z else m0 z) (ps c) y) → News h0 env.locals h (Led c ++ own) →
      wpAny (model prog w) A (execs body env) (ListPost h0 env.locals Led ps Facts x stored m0 (P (pre ++ [n])) own { s with heap := h, toks := tk } Q) E { s with heap := h, toks := tk })
    (done : ∀ (c : σ) (u : Str → Option Value) h tk, Facts c → P ns c → Fr h0 env.locals h (fun y => if y = x then u y else kstB (fun z => if stored.contains z then u z else m0 z) (ps c) y) → News h0 env.locals h (Led c) → Q .next { s with heap := h, toks := tk }) :
    wpAny (model prog w) A (pyIter (.ref l)) (fun it s2 => LoopAtV prog w A h0 env x body Q E it s2) E s := by
  have hlL : l ≠ env.locals := (N (l, ol) (.head _)).2.1
  have hne : l ≠ s.heap.objs.size := by
    obtain ⟨o, ho, _⟩ := id hl
    exact Nat.ne_of_lt (Heap.lt_size ho)
  apply wpAny_pyIter_list hl
  have sz : vs.toArray.size = ns.length := (List.size_toArray ..).trans hi.length
  have walk := sz ▸ Walks.list (prog := prog) (w := w) hh s.heap.objs.size l hne vs.toArray
  refine ⟨_, _, _, ns.length, _, _, m0, Led c0, (fun i m nx => KstS Led ps Facts x stored m0 P (ns.take i) m nx), rfl, walk, ?_, ?_, ?_, ⟨⟨_, Heap.get?_push_size _ rfl, rfl, rfl⟩, hl.at fun o e => Heap.get?_push_of_some _ e⟩, F.push _, (fun p hm => ⟨Heap.get?_push_of_some _ (N p (.tail _ hm)).1, (N p (.tail _ hm)).2⟩), ⟨c0, rfl, hf, hps, fun _ _ _ _ => rfl, by simpa using hp⟩, ?_, ?_⟩
  · intro inFp
    rcases List.mem_cons.mp inFp with q | q
    · exact Nat.lt_irrefl _ (Nat.lt_of_lt_of_eq F.ns.lt q.symm)
    · exact hlL (List.mem_singleton.mp q).symm
  · intro b hb
    rw [List.mem_singleton.mp hb]
    exact next_is_new F
  · intro p hm hI
    exact absurd (Heap.lt_size (N p (.tail _ hm)).1) ((List.mem_singleton.mp hI) ▸ Nat.lt_irrefl _)
  · rintro i v m1 news1 s1 own ⟨hh', tk', rfl⟩ hin hP ⟨c, rfl, hf', h1, h2, hp'⟩ hoff hown hget hfp hst F1 N1
    obtain ⟨t, ev⟩ := item_at hi hin hP
    subst ev
    obtain ⟨hs, e⟩ := take_split ns hin
    have N2 : News h0 env.locals hh' (Led c ++ own) := fun p hm => N1 p ((List.mem_append.mp hm).elim (fun h => List.mem_append.mpr (.inr h)) fun h => List.mem_append.mpr (.inl h))
    obtain ⟨oI, gI, _, dI⟩ := hst.1
    have mI : (s.heap.objs.size, oI) ∈ own := hfp _ (.head _) (next_is_new F) oI gI
    refine wpAny_mono (turn c (ns.take i) (ns.drop (i + 1)) ns[i] t m1 hh' tk' own e (List.getElem_mem ..) hf' hp' (kst_fr h1 h2 F1) N2) (fun f s2 p => ?_) fun _ _ e => e
    have fin : ListEnd h0 env.locals Led ps Facts x stored m0 (P (ns.take i ++ [ns[i]])) own { s with heap := hh', toks := tk' } s2 → LoopStepU h0 env.locals [s.heap.objs.size] own (fun m nx => KstS Led ps Facts x stored m0 P (ns.take (i + 1)) m nx) { s with heap := hh', toks := tk' } .next s2 := by
      rintro ⟨c3, h3', tk3, m3, news3, rfl, F3, N3, hn3, ho3, hf3, hk3, hr3, hp3⟩
      refine ⟨rfl, h3', tk3, m3, Led c3, rfl, F3, fun p hm => N3 p ((List.mem_append.mp hm).elim (ho3 p) (hn3 p)), fun p hm hq => ?_, ⟨c3, rfl, hf3, hk3, hr3, by rw [hs]; exact hp3⟩⟩
      have g1 := (N3 p (hn3 p hm)).1
      have g2 := (N3 _ (ho3 _ mI)).1
      rw [List.mem_singleton.mp hq, g2] at g1
      exact hLed c3 hf3 p hm _ (by rw [← Option.some.inj g1]; exact dI)
    cases f with
    | ret v => exact .ret p
    | brk => exact .brk p
    | next => exact .next (fin p)
    | cont => exact .cont (fin p)
  · rintro h' tk m' news' F' N' _ ⟨c, rfl, hf', h1, h2, hp'⟩
    rw [List.take_length] at hp'
    exact done c m' h' tk hf' hp' (kst_frOut h1 h2 F') N'
/-- the loop that binds one list of ints anew, the rest of the ledger standing by -/
theorem kept_cell {o : Obj} {v : Option Value} (h : o.data = .cell v) : Kept o := fun f e => by rw [h] at e; cases e
theorem kept_list {a : Array Value} {n : Nat} : Kept (listOf a n) := fun _ e => (nomatch e)
theorem list_nocell {a : Array Value} {n : Nat} : ∀ v, (listOf a n).data ≠ .cell v := fun _ e => (nomatch e)
theorem found_range {r cx ad L : Addr} {ox : Obj} {v0 : Option Value} {vs : List Value} {nn : Nat} {ns : List Int} {a0 b0 : Int} {t0 u0 w0 : Tok} {n : Nat} {m0 : Str → Option Value} {rest : List (Addr × Obj)} (y : Str) (P : List Int → List Int → Prop)
    (eL : env.locals = L) (hh : A.handled = none) (hr : IsRange s.heap r a0 b0 1 t0 u0 w0) (hsmall : Builtin.Range.small a0 b0 1 = true) (hn : Builtin.Range.rangeSize a0 b0 1 = (n : Int))
    (hk : env.scope.kind = .function) (hx : env.kindOf x = some .cell) (hc : env.cells.lookup x = some cx)
    (F : Fr h0 L s.heap m0) (hy : m0 y = some (.ref ad)) (N : News h0 L s.heap ((ad, listOf vs.toArray nn) :: (cx, ox) :: rest))
    (hox : ox.data = .cell v0) (hrest : ∀ p ∈ rest, Kept p.2 ∧ (p.1 ≠ cx ∨ ∀ v, p.2.data ≠ .cell v)) (hi : IntsAre vs ns) (hp : P [] ns)
    (turn : ∀ (pre : List Int) (k : Int) t (ad : Addr) (vs : List Value) (nn : Nat) (ns : List Int) h tk o own, k = a0 + (pre.length : Int) → pre.length < n → IntsAre vs ns → P pre ns → o.data = .cell (some (.int k t)) →
      Fr h0 L h (fun z => if z = y then some (.ref ad) else m0 z) → News h0 L h ((ad, listOf vs.toArray nn) :: (cx, o) :: (rest ++ own)) →
      wpAny (model prog w) A (execs body env) (NewPost (σ := Addr × List Value × Nat × List Int) h0 L (fun c => (c.1, listOf c.2.1.toArray c.2.2.1) :: rest) (fun c => [(y, .ref c.1)]) (fun c => IntsAre c.2.1 c.2.2.2) m0 (fun c => P (pre ++ [k]) c.2.2.2) ((cx, o) :: own) { s with heap := h, toks := tk } Q) E { s with heap := h, toks := tk })
    (done : ∀ (ad : Addr) (vs : List Value) (nn : Nat) (ns : List Int) h tk, IntsAre vs ns → P (rangeKs a0 n) ns → Fr h0 L h (fun z => if z = y then some (.ref ad) else m0 z) → News h0 L h ((ad, listOf vs.toArray nn) :: rest) → Q .next { s with heap := h, toks := tk })
    (hE : PassesOwn (model prog w) A env E := by passes_own) :
    wpAny (model prog w) A (pyIter (.ref r)) (fun it s2 => LoopC prog w A env x px body Q E it s2) E s := by
  subst eL
  refine cell_range (σ := Addr × List Value × Nat × List Int) (fun c => (c.1, listOf c.2.1.toArray c.2.2.1) :: rest) (fun c => [(y, .ref c.1)]) (fun c => IntsAre c.2.1 c.2.2.2) (fun pre c => P pre c.2.2.2) (ad, vs, nn, ns) hh hr hsmall hn hk hx hc F ?_ ?_ hox hi hp ?_ ?_ ?_ hE
  · intro p hm
    rw [List.mem_singleton.mp hm]
    exact hy
  · intro p hm
    rcases List.mem_cons.mp hm with rfl | hm
    · exact N _ (.tail _ (.head _))
    · rcases List.mem_cons.mp hm with rfl | hm
      · exact N _ (.head _)
      · exact N _ (.tail _ (.tail _ hm))
  · intro c _ p hm
    rcases List.mem_cons.mp hm with rfl | hm
    · exact ⟨kept_list, .inr list_nocell⟩
    · exact hrest p hm
  · rintro ⟨ad, vs, nn, ns⟩ pre k t h tk o own e hl hi hp ho F N
    refine turn pre k t ad vs nn ns h tk o own e hl hi hp ho F (fun p hm => N p ?_)
    simp only [List.mem_cons, List.mem_append, List.cons_append] at hm ⊢
    rcases hm with h | h | h | h
    · exact .inl h
    · exact .inr (.inr (.inl h))
    · exact .inr (.inl h)
    · exact .inr (.inr (.inr h))
  · rintro ⟨ad, vs, nn, ns⟩ h tk hi hp F N
    exact done ad vs nn ns h tk hi hp F N
theorem found_end {L ad : Addr} {vs : List Value} {nn : Nat} {ns : List Int} {y : Str} {m0 m' : Str → Option Value} {P : List Int → Prop} {own rest news' : List (Addr × Obj)} {s1 : Shared} {h' : Heap} {tk : Nat}
    (F : Fr h0 L h' m') (hy : m' y = some (.ref ad)) (N : News h0 L h' news') (m3 : (ad, listOf vs.toArray nn) ∈ news') (m2 : ∀ p ∈ rest, p ∈ news') (ho : ∀ p ∈ own, p ∈ news') (hi : IntsAre vs ns) (hr : ∀ z, z ≠ y → m' z = m0 z) (hp : P ns) :
    NewEnd (σ := Addr × List Value × Nat × List Int) h0 L (fun c => (c.1, listOf c.2.1.toArray c.2.2.1) :: rest) (fun c => [(y, .ref c.1)]) (fun c => IntsAre c.2.1 c.2.2.2) m0 (fun c => P c.2.2.2) own s1 { s1 with heap := h', toks := tk } := by
  refine new_end (ad, vs, nn, ns) F ?_ N ?_ ho hi ?_ hp
  · intro p hm
    rw [List.mem_singleton.mp hm]
    exact hy
  · intro p hm
    rcases List.mem_cons.mp hm with rfl | hm
    · exact m3
    · exact m2 p hm
  · intro z hz
    exact hr z (hz _ (.head _))
/-- the loop over a made list that binds one list of two ints anew -/
theorem best_list {l ad : Addr} {vs : List Value} {ns : List Int} {nn n2 : Nat} {p q : Int} {t1 t2 : Tok} {m0 : Str → Option Value} {news : List (Addr × Obj)} (y : Str) (stored : List Str) (P : List Int → Int → Int → Prop)
    (hh : A.handled = none) (F : Fr h0 env.locals s.heap m0) (N : News h0 env.locals s.heap news) (m1 : (l, listOf vs.toArray nn) ∈ news) (hi : IntsAre vs ns) (hy : m0 y = some (.ref ad)) (m2 : (ad, listOf [Value.int p t1, Value.int q t2].toArray n2) ∈ news) (hp : P [] p q)
    (turn : ∀ pre post v t (u : Str → Option Value) (ad : Addr) (p q : Int) (t1 t2 : Tok) (n2 : Nat) h tk own, ns = pre ++ v :: post → v ∈ ns → P pre p q →
      Fr h0 env.locals h (fun z => if z = x then some (.int v t) else if z = y then some (.ref ad) else if stored.contains z then u z else m0 z) → News h0 env.locals h ((ad, listOf [Value.int p t1, Value.int q t2].toArray n2) :: own) →
      wpAny (model prog w) A (execs body env) (ListPost (σ := Addr × Int × Int × Tok × Tok × Nat) h0 env.locals (fun c => [(c.1, listOf [Value.int c.2.1 c.2.2.2.1, Value.int c.2.2.1 c.2.2.2.2.1].toArray c.2.2.2.2.2)]) (fun c => [(y, .ref c.1)]) (fun _ => True) x stored m0 (fun c => P (pre ++ [v]) c.2.1 c.2.2.1) own { s with heap := h, toks := tk } Q) E { s with heap := h, toks := tk })
    (done : ∀ (u : Str → Option Value) (ad : Addr) (p q : Int) (t1 t2 : Tok) (n2 : Nat) h tk, P ns p q → Fr h0 env.locals h (fun z => if z = x then u z else if z = y then some (.ref ad) else if stored.contains z then u z else m0 z) → News h0 env.locals h [(ad, listOf [Value.int p t1, Value.int q t2].toArray n2)] → Q .next { s with heap := h, toks := tk }) :
    wpAny (model prog w) A (pyIter (.ref l)) (fun it s2 => LoopAtV prog w A h0 env x body Q E it s2) E s := by
  refine new_list (σ := Addr × Int × Int × Tok × Tok × Nat) (ol := listOf vs.toArray nn) (fun c => [(c.1, listOf [Value.int c.2.1 c.2.2.2.1, Value.int c.2.2.1 c.2.2.2.2.1].toArray c.2.2.2.2.2)]) (fun c => [(y, .ref c.1)]) (fun _ => True) stored (fun pre c => P pre c.2.1 c.2.2.1) (ad, p, q, t1, t2, n2) hh ⟨_, (N _ m1).1, rfl, nn, rfl⟩ hi F ?_ ?_ trivial hp ?_ ?_ ?_
  · intro p hm
    rw [List.mem_singleton.mp hm]
    exact hy
  · intro p hm
    rcases List.mem_cons.mp hm with rfl | hm
    · exact N _ m1
    · rw [List.mem_singleton.mp hm]
      exact N _ m2
  · intro c _ p hm
    rw [List.mem_singleton.mp hm]
    exact kept_list
  · rintro ⟨ad, p, q, t1, t2, n2⟩ pre post v t u h tk own e hm _ hp F N
    exact turn pre post v t u ad p q t1 t2 n2 h tk own e hm hp F N
  · rintro ⟨ad, p, q, t1, t2, n2⟩ u h tk _ hp F N
    exact done u ad p q t1 t2 n2 h tk hp F N
theorem best_end {L ad : Addr} {n2 : Nat} {p q : Int} {t1 t2 : Tok} {y : Str} {stored : List Str} {m0 m' : Str → Option Value} {P : Int → Int → Prop} {own news' : List (Addr × Obj)} {s1 : Shared} {h' : Heap} {tk : Nat}
    (F : Fr h0 L h' m') (hy : m' y = some (.ref ad)) (N : News h0 L h' news') (m3 : (ad, listOf [Value.int p t1, Value.int q t2].toArray n2) ∈ news') (ho : ∀ p ∈ own, p ∈ news') (hr : ∀ z, z ≠ x → z ≠ y → stored.contains z = false → m' z = m0 z) (hp : P p q) :
    ListEnd (σ := Addr × Int × Int × Tok × Tok × Nat) h0 L (fun c => [(c.1, listOf [Value.int c.2.1 c.2.2.2.1, Value.int c.2.2.1 c.2.2.2.2.1].toArray c.2.2.2.2.2)]) (fun c => [(y, .ref c.1)]) (fun _ => True) x stored m0 (fun c => P c.2.1 c.2.2.1) own s1 { s1 with heap := h', toks := tk } := by
  refine list_end (ad, p, q, t1, t2, n2) F ?_ N ?_ ho trivial ?_ hp
  · intro p hm
    rw [List.mem_singleton.mp hm]
    exact hy
  · intro p hm
    rw [List.mem_singleton.mp hm]
    exact m3
  · intro z hx hz hs
    exact hr z hx (hz _ (.head _)) hs
end
theorem comp_el {h0 : Heap} {L I C D : Addr} {m : Str → Option Value} {s1 : Shared} {oI oC oD : Obj} {S : List (Addr × Obj) → Prop} {news all : List (Addr × Obj)} {l r : List Int} {y : Value} {h' : Heap} {tk : Nat}
    (F : Fr h0 L h' m) (N : News h0 L h' all) (sub : ∀ p ∈ (I, oI) :: (C, oC) :: (D, oD) :: news, p ∈ all) (off : LCg.Off3 I C D news) (hS : S news) (k : KCiEl news l r y news) :
    LCg.CompEnd h0 L m s1 I oI C oC D oD S (fun y news' => KCiEl news l r y news') y { s1 with heap := h', toks := tk } := LCg.CompEnd.intro F N news sub off hS k
theorem comp_no {h0 : Heap} {L I C D : Addr} {m : Str → Option Value} {s1 : Shared} {oI oC oD : Obj} {S : List (Addr × Obj) → Prop} {news all : List (Addr × Obj)} {l r : List Int} {y : Value} {h' : Heap} {tk : Nat}
    (F : Fr h0 L h' m) (N : News h0 L h' all) (sub : ∀ p ∈ (I, oI) :: (C, oC) :: (D, oD) :: news, p ∈ all) (off : LCg.Off3 I C D news) (hS : S news) (k : KCiNo news l r news) :
    LCg.CompEnd h0 L m s1 I oI C oC D oD S (fun _ news' => KCiNo news l r news') y { s1 with heap := h', toks := tk } := LCg.CompEnd.intro F N news sub off hS k
end RS

open PySem PySem.W PyProof.Rows
namespace RS
theorem few_n {n : Int} (h : PySem.Challenge.rw_remaindersums_s06_free.pre [WData.int n] = true) : n ≤ 12 ∨ 24 < n := by
  obtain ⟨e1, lo1, hi1⟩ := dec_int (os_pre_isSome h)
  have q := os_pre_asked h e1
  have q2 : Sv63Neutral.few n 24 12 = true := q
  unfold Sv63Neutral.few at q2
  simp only [Bool.and_eq_true, Bool.or_eq_true, decide_eq_true_eq] at q2
  exact q2.2
/-- all_free's loop: all such sets below the next bit -/
structure Found (n : Int) (pre ns : List Int) : Prop where
  eq : ns = (freeTo n.toNat pre.length).map fun (i : Nat) => (i : Int)
def FoundP {n : Int} (_ : PySem.Challenge.rw_remaindersums_s06_free.pre [WData.int n] = true) (pre ns : List Int) : Prop := Found n pre ns
theorem startF {n : Int} (h : PySem.Challenge.rw_remaindersums_s06_free.pre [WData.int n] = true) : FoundP h [] [0] := ⟨by
  show [(0 : Int)] = (freeTo n.toNat 0).map fun (i : Nat) => (i : Int)
  rw [freeTo_zero]
  rfl⟩
theorem found_len {n : Int} {pre ns : List Int} (h : PySem.Challenge.rw_remaindersums_s06_free.pre [WData.int n] = true) (w : FoundP h pre ns) (hn : ¬ 24 < n) (hl : pre.length < (n - 0).toNat) : ns.length ≤ 4096 := by
  have e := w.eq
  have l := freeTo_len n.toNat pre.length
  have f := few_n h
  have p : 2 ^ pre.length ≤ 2 ^ 12 := Nat.pow_le_pow_right (by decide) (by omega)
  have e2 : 2 ^ 12 = 4096 := by decide
  rw [e, List.length_map]
  omega
theorem found_room {n : Int} {pre ns : List Int} {vs : List Value} (h : PySem.Challenge.rw_remaindersums_s06_free.pre [WData.int n] = true) (hi : IntsAre vs ns) (w : FoundP h pre ns) (hn : ¬ 24 < n) (hl : pre.length < (n - 0).toNat) : vs.toArray.size ≤ sizeLine := by
  have l := found_len h w hn hl
  rw [sizeLine_eq, List.size_toArray, hi.length]
  omega
theorem found_in {n : Int} {pre ns : List Int} {k : Int} (h : PySem.Challenge.rw_remaindersums_s06_free.pre [WData.int n] = true) (w : FoundP h pre ns) (hn : ¬ 24 < n) (hl : pre.length < (n - 0).toNat) (hk : k ∈ ns) : 0 ≤ k ∧ k < 4096 := by
  rw [w.eq] at hk
  obtain ⟨a, ha, rfl⟩ := List.mem_map.mp hk
  have lt := freeTo_lt ha
  have f := few_n h
  have p : 2 ^ pre.length ≤ 2 ^ 12 := Nat.pow_le_pow_right (by decide) (by omega)
  have e2 : 2 ^ 12 = 4096 := by decide
  omega
theorem or_small {n : Int} {pre ns : List Int} {k x : Int} (h : PySem.Challenge.rw_remaindersums_s06_free.pre [WData.int n] = true) (w : FoundP h pre ns) (hk : k ∈ ns) (hx : x = 0 + (pre.length : Int)) (hn : ¬ 24 < n) (hl : pre.length < (n - 0).toNat) :
    0 ≤ Builtin.bitOr k (1 * 2 ^ x.toNat) ∧ Builtin.bitOr k (1 * 2 ^ x.toNat) < 4096 := by
  have b := found_in h w hn hl hk
  have f := few_n h
  obtain ⟨K, rfl⟩ := Int.eq_ofNat_of_zero_le b.1
  rw [Int.one_mul, pow_nat, or_nat]
  have e2 : 2 ^ 12 = 4096 := by decide
  have p : 2 ^ x.toNat < 2 ^ 12 := Nat.pow_lt_pow_right (by decide) (by omega)
  have q := Nat.or_lt_two_pow (x := K) (y := 2 ^ x.toNat) (n := 12) (by omega) p
  omega
theorem shl_free {n : Int} {pre ns : List Int} {k x s : Int} (h : PySem.Challenge.rw_remaindersums_s06_free.pre [WData.int n] = true) (w : FoundP h pre ns) (hk : k ∈ ns) (hx : x = 0 + (pre.length : Int)) (hn : ¬ 24 < n) (hl : pre.length < (n - 0).toNat) (h64 : s ≤ 64) :
    (Builtin.Int.intBits (Builtin.bitOr k (1 * 2 ^ x.toNat)) : Int) + s ≤ 2 ^ 27 := by
  have b := or_small h w hk hx hn hl
  have q : Builtin.Int.intBits (Builtin.bitOr k (1 * 2 ^ x.toNat)) ≤ 70 := PySem.intBits_le_iff.mpr (by
    have e : 2 ^ 70 = 1180591620717411303424 := by decide
    omega)
  have e : (2 : Int) ^ 27 = 134217728 := by decide
  rw [e]
  omega
theorem room2 {n : Int} {pre ns ms : List Int} {vs ys : List Value} (h : PySem.Challenge.rw_remaindersums_s06_free.pre [WData.int n] = true) (hi : IntsAre vs ns) (hj : IntsAre ys ms) (w : FoundP h pre ns) (hl2 : ys.length ≤ vs.toArray.size) (hn : ¬ 24 < n) (hl : pre.length < (n - 0).toNat) : ns.length + ms.length ≤ sizeLine := by
  have l := found_len h w hn hl
  rw [List.size_toArray, hi.length, hj.length] at hl2
  rw [sizeLine_eq]
  omega
/-- is_free as the program looks at it -/
theorem free_nat {N Q : Nat} (hQ : Q < 2 ^ N) : Builtin.bitAnd (addedI (N : Int) (Q : Int) (Q : Int)) (Q : Int) = 0 ↔ Sv63Neutral.isFree N Q = true := by
  rw [addedI_nat, added_eq hQ, and_nat, free_sums]
  omega
def addF (n x : Int) (l : List Int) (k : Int) : List Int := if Builtin.bitAnd (addedI n (Builtin.bitOr k (1 * 2 ^ x.toNat)) (Builtin.bitOr k (1 * 2 ^ x.toNat))) (Builtin.bitOr k (1 * 2 ^ x.toNat)) = 0 then l ++ [Builtin.bitOr k (1 * 2 ^ x.toNat)] else l
theorem add_fold {N j : Nat} (hj : j < N) : ∀ (l acc : List Nat), (∀ a ∈ l, a < 2 ^ j) →
    (l.map fun (i : Nat) => (i : Int)).foldl (addF (N : Int) (j : Int)) (acc.map fun (i : Nat) => (i : Int)) = (acc ++ (l.filter fun a => Sv63Neutral.isFree N (a ||| 2 ^ j)).map (· ||| 2 ^ j)).map fun (i : Nat) => (i : Int)
  | [], acc, _ => by simp
  | a :: r, acc, h => by
    have ha : a < 2 ^ j := h a (.head _)
    have hQ : a ||| 2 ^ j < 2 ^ N := by
      rw [← or_top ha]
      have p : 2 ^ (j + 1) ≤ 2 ^ N := Nat.pow_le_pow_right (by decide) hj
      rw [Nat.pow_succ] at p
      omega
    have eq : Builtin.bitOr (a : Int) (1 * 2 ^ ((j : Int)).toNat) = ((a ||| 2 ^ j : Nat) : Int) := by
      rw [Int.toNat_natCast, Int.one_mul, pow_nat, or_nat]
    rw [List.map_cons, List.foldl_cons, List.filter_cons]
    unfold addF
    rw [eq]
    by_cases c : Sv63Neutral.isFree N (a ||| 2 ^ j) = true
    · rw [if_pos ((free_nat hQ).mpr c), if_pos c]
      have e2 : acc.map (fun (i : Nat) => (i : Int)) ++ [((a ||| 2 ^ j : Nat) : Int)] = (acc ++ [a ||| 2 ^ j]).map fun (i : Nat) => (i : Int) := by simp
      rw [e2]
      have ih := add_fold hj r (acc ++ [a ||| 2 ^ j]) (fun b hb => h b (.tail _ hb))
      unfold addF at ih
      rw [ih, List.append_assoc]
      rfl
    · rw [if_neg (fun q => c ((free_nat hQ).mp q)), if_neg c]
      have ih := add_fold hj r acc (fun b hb => h b (.tail _ hb))
      unfold addF at ih
      exact ih
theorem turnF {n x : Int} {pre ns : List Int} (h : PySem.Challenge.rw_remaindersums_s06_free.pre [WData.int n] = true) (w : FoundP h pre ns) (hx : x = 0 + (pre.length : Int)) (hl : pre.length < (n - 0).toNat) :
    FoundP h (pre ++ [x]) (ns ++ ns.foldl (addF n x) []) := by
  constructor
  have hn : 0 ≤ n := by omega
  obtain ⟨N, rfl⟩ := Int.eq_ofNat_of_zero_le hn
  have ex : x = ((pre.length : Nat) : Int) := by omega
  subst ex
  have q := add_fold (N := N) (j := pre.length) (by omega) (freeTo N pre.length) [] (fun a ha => freeTo_lt ha)
  have ew := w.eq
  rw [Int.toNat_natCast] at ew ⊢
  rw [List.length_append, List.length_cons, List.length_nil, freeTo_succ, ew]
  rw [List.map_nil, List.nil_append] at q
  rw [q, List.map_append]
/-- free's loop: the first of the most -/
def bestI (n : Int) (w : Int × Int) (v : Int) : Int × Int := if w.1 < manyI n v then (manyI n v, v) else w
structure Best (n : Int) (pre : List Int) (p q : Int) : Prop where
  eq : (p, q) = pre.foldl (bestI n) (0, 0)
def BestP {n : Int} (_ : PySem.Challenge.rw_remaindersums_s06_free.pre [WData.int n] = true) (pre : List Int) (p q : Int) : Prop := Best n pre p q
theorem startB {n : Int} (h : PySem.Challenge.rw_remaindersums_s06_free.pre [WData.int n] = true) : BestP h [] 0 0 := ⟨rfl⟩
theorem turnB {n : Int} {pre : List Int} {p q v m : Int} (h : PySem.Challenge.rw_remaindersums_s06_free.pre [WData.int n] = true) (w : BestP h pre p q) (hm : m = manyI n v) (c : p < m) : BestP h (pre ++ [v]) m v := by
  constructor
  rw [List.foldl_append, List.foldl_cons, List.foldl_nil, ← w.eq]
  unfold bestI
  subst hm
  rw [if_pos c]
theorem turnC {n : Int} {pre : List Int} {p q v m : Int} (h : PySem.Challenge.rw_remaindersums_s06_free.pre [WData.int n] = true) (w : BestP h pre p q) (hm : m = manyI n v) (c : ¬ p < m) : BestP h (pre ++ [v]) p q := by
  constructor
  rw [List.foldl_append, List.foldl_cons, List.foldl_nil, ← w.eq]
  unfold bestI
  subst hm
  rw [if_neg c]
theorem best_fold (N : Nat) : ∀ (l : List Nat) (w : Nat), (l.map fun (i : Nat) => (i : Int)).foldl (bestI (N : Int)) (((Sv63.many N w : Nat) : Int), (w : Int)) =
    (((Sv63.many N (l.foldl (fun (w s : Nat) => if Sv63.many N w < Sv63.many N s then s else w) w) : Nat) : Int), ((l.foldl (fun (w s : Nat) => if Sv63.many N w < Sv63.many N s then s else w) w : Nat) : Int))
  | [], w => rfl
  | a :: r, w => by
    rw [List.map_cons, List.foldl_cons, List.foldl_cons]
    have e : bestI (N : Int) (((Sv63.many N w : Nat) : Int), (w : Int)) (a : Int) = (((Sv63.many N (if Sv63.many N w < Sv63.many N a then a else w) : Nat) : Int), (((if Sv63.many N w < Sv63.many N a then a else w) : Nat) : Int)) := by
      unfold bestI
      rw [manyI_nat]
      by_cases c : Sv63.many N w < Sv63.many N a
      · rw [if_pos c, if_pos (show ((Sv63.many N w : Nat) : Int) < ((Sv63.many N a : Nat) : Int) by omega)]
      · rw [if_neg c, if_neg (show ¬ ((Sv63.many N w : Nat) : Int) < ((Sv63.many N a : Nat) : Int) by omega)]
    rw [e]
    exact best_fold N r _
theorem free_def (n : Int) : PySv63.free n = Sv63Neutral.on (Sv63.within n 1 24) true fun _ => Sv63Neutral.say (Sv63.told n.toNat (Sv63Neutral.freeOf n.toNat)) := rfl
theorem end_free {n : Int} {l : List Int} (h : l = PySv63.free n) : l = Codec.app PySem.Challenge.rw_remaindersums_s06_free.args PySem.Challenge.rw_remaindersums_s06_free.f (n, ()) := h
theorem free_no {n : Int} (h : n < 1 ∨ 24 < n) : [-2] = PySv63.free n := by
  have e : Sv63.within n 1 24 = false := by
    unfold Sv63.within
    rcases h with h | h
    · have : decide (1 ≤ n) = false := by simp; omega
      rw [this]; simp
    · have : decide (n ≤ 24) = false := by simp; omega
      rw [this]; simp
  rw [free_def, e]
  rfl
theorem free_yes {n p q : Int} {ns : List Int} (h : PySem.Challenge.rw_remaindersums_s06_free.pre [WData.int n] = true) (w : FoundP h (rangeKs 0 (n - 0).toNat) ns) (b : BestP h ns p q) (h1 : 1 ≤ n) (h24 : n ≤ 24) : [p, q] = PySv63.free n := by
  have e : Sv63.within n 1 24 = true := by
    unfold Sv63.within
    simp [h1, h24]
  rw [free_def, e]
  obtain ⟨N, rfl⟩ := Int.eq_ofNat_of_zero_le (show 0 ≤ n by omega)
  have ew := w.eq
  have el : ((N : Int) - 0).toNat = N := by omega
  rw [rangeKs_length, el, Int.toNat_natCast] at ew
  have eb := b.eq
  have e0 : ((0 : Int), (0 : Int)) = (((Sv63.many N 0 : Nat) : Int), ((0 : Nat) : Int)) := by
    rw [many_zero']
    rfl
  rw [ew, e0, best_fold, ← free_fold] at eb
  have e1 := congrArg Prod.fst eb
  have e2 := congrArg Prod.snd eb
  dsimp only at e1 e2
  rw [e1, e2]
  rfl
end RS
local macro_rules | `(tactic| walk_at "NewPost") => `(tactic| (dsimp only [RS.NewPost]))
local macro_rules | `(tactic| walk_at "NewEnd") => `(tactic| ((rename News _ _ _ _ => nE'); (refine RS.found_end (by assumption) (by with_unfolding_all rfl) nE' (by kcf_m) (by kcf_all) (by kcf_all) (by assumption) ?rs_r ?rs_p); (case rs_r => (intro z h1; (simp [h1]; done))); (case rs_p => exact RS.turnF _ (by assumption) (by assumption) (by assumption))))
local macro_rules | `(tactic| walk_at "ListPost") => `(tactic| (dsimp only [RS.ListPost]))
local macro_rules | `(tactic| walk_at "ListEnd") => `(tactic| ((rename News _ _ _ _ => nE'); (refine RS.best_end (by assumption) (by with_unfolding_all rfl) nE' (by kcf_m) (by kcf_all) ?rs_r ?rs_p); (case rs_r => (intro z h1 h2 h3; (simp only [List.contains_cons, List.contains_nil, Bool.or_false, Bool.or_eq_false_iff, beq_eq_false_iff_ne, ne_eq] at h3); (simp [h1, h2, h3]; done))); (case rs_p => first | exact RS.turnB _ (by assumption) rfl (by first | assumption | omega) | exact RS.turnC _ (by assumption) rfl (by first | assumption | omega))))
set_option maxRecDepth 100000 in
set_option maxHeartbeats 8000000 in
theorem PySem.Challenge.cw_remaindersums_s06_free_holds : PySem.Challenge.rw_remaindersums_s06_free.Holds := by
  k_with "exec For Name Call cons nil" => (first | ((with_reducible show wpAny _ _ (exec (Stmt.For (Expr.Name (Str.ofString "x") _) _ _ _ _) _) _ _ _); with_unfolding_all refine' RS.for_cell ?_) | ((with_reducible show wpAny _ _ (exec (Stmt.For (Expr.Name (Str.ofString "a") _) _ _ _ _) _) _ _ _); (rename PyProof.Rows.Fr _ _ _ _ => lF'); (with_unfolding_all refine' PyProof.Rows.For_invVF lF' ?k1 ?k2 ?_; (case k1 => exact rfl); (case k2 => exact rfl))))
  k_with "pyIter ref" => first
    | ((with_reducible show wpAny _ _ (pyIter (Value.ref _)) (fun it s₂ => RS.LoopC _ _ _ _ _ _ _ _ _ it s₂) _ _);
          (rename PyProof.Rows.Fr _ _ _ _ => lF'); (rename PyProof.Rows.News _ _ _ _ => lN'); (rename IsRange _ _ _ _ _ _ _ _ => rgX);
          (with_unfolding_all refine' RS.found_range (Str.ofString "found") (RS.FoundP (by assumption)) (by rfl) ?rs_hh rgX ?rs_hsmall (PyProof.Rows.rangeSize_nat _ _) ?rs_hk ?rs_hx (by rfl) lF' (by rfl) lN' (by assumption) ?rs_hrest (by l_ints) ?rs_hp ?_ ?_);
          (case rs_hh => with_unfolding_all exact rfl);
          (case rs_hsmall => exact small_one (by omega) (by omega) (by omega) (by omega));
          (case rs_hk => with_unfolding_all exact rfl);
          (case rs_hx => with_unfolding_all exact rfl);
          (case rs_hrest => exact List.forall_mem_cons.mpr ⟨⟨RS.kept_cell (by assumption), .inl (Nat.ne_of_lt (Nat.lt_succ_self _))⟩, List.forall_mem_cons.mpr ⟨⟨RS.kept_list, .inr RS.list_nocell⟩, List.forall_mem_nil _⟩⟩);
          (case rs_hp => exact RS.startF _);
          (all_goals (try clear lF' lN'));
          rotate_left; (intro kAd kVs kNn kNs kH kTk kIA kInv kFr kNews); rotate_left; (intro kPre kN kT kAd kVs kNn kNs kH kTk kO kOwn kEq kLt kIA kInv kCell kFr kNews); (simp only [List.cons_append, List.nil_append] at kNews);
          (all_goals (try k_fold)))
    | (k_of "a" => ((rename PyProof.Rows.Fr _ _ _ _ => lF'); (rename PyProof.Rows.News _ _ _ _ => lN');
                    (with_unfolding_all refine' RS.best_list (Str.ofString "largest") [Str.ofString "candidate"] (RS.BestP (by assumption)) ?rs_hh lF' lN' (by kcf_m) (by assumption) (by rfl) (by kcf_m) ?rs_hp ?_ ?_);
                    (case rs_hh => with_unfolding_all exact rfl);
                    (case rs_hp => exact RS.startB _);
                    (all_goals (try clear lF' lN'));
                    rotate_left; (intro kU kAd kP kQ kT1 kT2 kN2 kH kTk kInv kFr kNews); rotate_left; (intro kPre kPost kN kT kU kAd kP kQ kT1 kT2 kN2 kH kTk kOwn kEq kMem kInv kFr kNews);
                    (all_goals (try k_fold))))
  k_with "CompSrcT" => (k_here; k_dflt ((refine LCt.CompSrcT.ledger (by rfl) (by k_asm) (by k_asm) (by k_mem) (by exact RS.found_room _ (by assumption) (by assumption) (by omega) (by omega)) ?_); intro g'; (refine' kci_list _ (by assumption) (fun k' t' I' oI' C' oC' D' m' ys' l' h' tk' E' hk' hI' hC' hx' F' N' off' ne' => ?_) ?_ ?_); (all_goals (try (simp only [LCg.Off3] at off'))); (all_goals (try ((show KPfMark → _); intro hMark'))); kcf_last))
  k_with "binaryOp LShift int int" => ((with_reducible refine PyProof.Rows.lshift_int ?kbn ?kbs ?_); (case kbn => omega); (case kbs => exact RS.shl_free _ (by assumption) (by assumption) (by assumption) (by omega) (by omega) (by omega)))
  k_with "CompEnd" => (k_here; k_dflt (first
    | (refine RS.comp_el (by assumption) (by assumption) (by kcf_all) (by first | assumption | (simp only [LCg.Off3]; assumption)) (by first | lcg_src | assumption) ?_)
    | (refine RS.comp_no (by assumption) (by assumption) (by kcf_all) (by first | assumption | (simp only [LCg.Off3]; assumption)) (by first | lcg_src | assumption) ?_)
    | kcf_end | lcg_end))
  k_with "binaryOp Add ref ref" => (k_here; k_dflt ((refine' kmk_add_ints ?rs_F ?rs_N ?rs_a ?rs_b ?rs_i ?rs_j ?_ ?rs_z); (case rs_F => k_asm); (case rs_N => k_asm); (case rs_a => kmk_list); (case rs_b => kmk_list); (case rs_i => l_ints); (case rs_j => l_ints); (case rs_z => exact RS.room2 _ (by assumption) (by assumption) (by assumption) (by assumption) (by omega) (by omega))); intro D' ws' h' F' N' l1 hI'; (try k_lt l1); (try k_sweep))
  open_ks with [.int 0]
  all_goals
    obtain ⟨e1, lo1, hi1⟩ := RS.dec_int (os_pre_isSome hpre)
    refine os_post e1 ?_
  all_goals first
    | exact RS.same_one (RS.end_free (RS.free_no (by omega)))
    | exact RS.same_two (RS.end_free (RS.free_yes _ (by assumption) (by assumption) (by omega) (by omega)))
#print axioms PySem.Challenge.cw_remaindersums_s06_free_holds
