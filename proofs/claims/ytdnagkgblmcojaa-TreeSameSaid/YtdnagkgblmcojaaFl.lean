/-
What is proved here: whole numbers below 2^53 in float64 are exact: their sums, products, comparisons, cutting towards zero and reading as int are those of the whole numbers. No condition but the bounds that each theorem names.
-/
import Derived.Laws.FloatArith
import Derived.Laws.ComplexArith
namespace Go.Fl
open Ieee

/-- the float64 of a whole number -/
def fl (n : Int) : Nat := floatOfInt .f64 n

theorem cut_mul (way : Toward) (neg : Bool) (a k : Nat) : way.cut neg (a * 2 ^ k) k = a := by
  unfold Toward.cut
  by_cases ha : a = 0
  · subst ha
    cases way <;> simp
  · have hp : 0 < 2 ^ k := Nat.two_pow_pos k
    have hl : k ≤ (a * 2 ^ k).log2 + 2 := by
      have : k ≤ (a * 2 ^ k).log2 := by
        rw [Nat.le_log2 (by have := Nat.mul_ne_zero ha (Nat.ne_of_gt hp); exact this)]
        exact Nat.le_mul_of_pos_left _ (Nat.pos_of_ne_zero ha)
      omega
    rw [Nat.min_eq_left hl, Nat.one_shiftLeft]
    have h1 : a * 2 ^ k / 2 ^ k = a := Nat.mul_div_cancel _ hp
    have h2 : a * 2 ^ k % 2 ^ k = 0 := Nat.mul_mod_left _ _
    simp only [h1, h2]
    cases way <;> simp

theorem log2_mul_pow (a k : Nat) (ha : a ≠ 0) : (a * 2 ^ k).log2 = a.log2 + k := by
  have hp : 2 ^ k ≠ 0 := Nat.ne_of_gt (Nat.two_pow_pos k)
  have hne : a * 2 ^ k ≠ 0 := Nat.mul_ne_zero ha hp
  refine (Nat.log2_eq_iff hne).2 ⟨?_, ?_⟩
  · rw [Nat.pow_add]; exact Nat.mul_le_mul_right _ (Nat.log2_self_le ha)
  · have := Nat.lt_log2_self (n := a)
    rw [show a.log2 + k + 1 = (a.log2 + 1) + k by omega, Nat.pow_add]
    exact Nat.mul_lt_mul_of_pos_right this (Nat.two_pow_pos k)

theorem log2_lt53 {a : Nat} (h : a < 2 ^ 53) (ha : a ≠ 0) : a.log2 ≤ 52 := by
  have := (Nat.log2_lt ha (k := 53)).2 h
  omega

/-- rung of a positive whole number below 2^53 -/
def rung (a : Nat) : Nat := (a.log2 + 1022) * 2 ^ 52 + a * 2 ^ (52 - a.log2)

theorem kept_bd {a : Nat} (ha : a ≠ 0) (h : a < 2 ^ 53) : 2 ^ 52 ≤ a * 2 ^ (52 - a.log2) ∧ a * 2 ^ (52 - a.log2) < 2 ^ 53 := by
  have hl := log2_lt53 h ha
  constructor
  · have := Nat.mul_le_mul_right (2 ^ (52 - a.log2)) (Nat.log2_self_le ha)
    rw [← Nat.pow_add, show a.log2 + (52 - a.log2) = 52 by omega] at this
    exact this
  · have := Nat.mul_lt_mul_of_pos_right (Nat.lt_log2_self (n := a)) (Nat.two_pow_pos (52 - a.log2))
    rw [← Nat.pow_add, show a.log2 + 1 + (52 - a.log2) = 53 by omega] at this
    exact this

theorem bnd_gen (l m B : Nat) (hl : l ≤ 52) (hm : m < 2 * B) : (l + 1022) * B + m ≤ 2047 * B := by
  have : (l + 1022) * B ≤ 1074 * B := Nat.mul_le_mul_right _ (by omega)
  omega
theorem bnd (l m : Nat) (hl : l ≤ 52) (hm : m < 2 ^ 53) : (l + 1022) * 2 ^ 52 + m ≤ 2047 * 2 ^ 52 := bnd_gen l m _ hl (by rw [show 2 * 2 ^ 52 = 2 ^ 53 from rfl]; exact hm)
theorem split_gen (l m B : Nat) (h1 : B ≤ m) (h2 : m < 2 * B) : ((l + 1022) * B + m) / B = l + 1023 ∧ ((l + 1022) * B + m) % B = m - B := by
  have e : (l + 1022) * B + m = (m - B) + (l + 1023) * B := by
    rw [Nat.add_mul l 1023, Nat.add_mul l 1022]; omega
  have hB : 0 < B := by omega
  rw [e, Nat.add_mul_div_right _ _ hB, Nat.add_mul_mod_self_right, Nat.mod_eq_of_lt (by omega), Nat.div_eq_of_lt (by omega)]
  exact ⟨by omega, rfl⟩
theorem split (l m : Nat) (h1 : 2 ^ 52 ≤ m) (h2 : m < 2 ^ 53) : ((l + 1022) * 2 ^ 52 + m) / 2 ^ 52 = l + 1023 ∧ ((l + 1022) * 2 ^ 52 + m) % 2 ^ 52 = m - 2 ^ 52 := split_gen l m _ h1 (by rw [show 2 * 2 ^ 52 = 2 ^ 53 from rfl]; exact h2)

theorem near (neg : Bool) (a k : Nat) (ha : a ≠ 0) (h : a < 2 ^ 53) : double.nearest neg (a * 2 ^ k) (-(k : Int)) = double.word neg (rung a) := by
  have hl := log2_lt53 h ha
  have hp : 2 ^ k ≠ 0 := Nat.ne_of_gt (Nat.two_pow_pos k)
  have hne : a * 2 ^ k ≠ 0 := Nat.mul_ne_zero ha hp
  have hb := kept_bd ha h
  unfold Format.nearest
  rw [if_neg hne, log2_mul_pow a k ha]
  have hlast : max (-(k : Int) + ((a.log2 + k : Nat) : Int) - ((double.fractionBits : Nat) : Int)) double.leastPlace = (a.log2 : Int) - 52 := by
    have h1 : double.leastPlace = -1074 := by decide
    have h2 : double.fractionBits = 52 := rfl
    rw [h1, h2]; omega
  simp only [hlast]
  have hk : Toward.even.cut neg ((a * 2 ^ k) <<< (-(k : Int) - ((a.log2 : Int) - 52)).toNat) ((a.log2 : Int) - 52 - -(k : Int)).toNat = a * 2 ^ (52 - a.log2) := by
    by_cases hc : 52 - a.log2 ≤ k
    · have e1 : (-(k : Int) - ((a.log2 : Int) - 52)).toNat = 0 := by omega
      have e2 : ((a.log2 : Int) - 52 - -(k : Int)).toNat = k - (52 - a.log2) := by omega
      rw [e1, e2, Nat.shiftLeft_zero]
      have e3 : a * 2 ^ k = (a * 2 ^ (52 - a.log2)) * 2 ^ (k - (52 - a.log2)) := by
        rw [Nat.mul_assoc, ← Nat.pow_add]; congr 2; omega
      rw [e3]
      exact cut_mul _ _ _ _
    · have e1 : (-(k : Int) - ((a.log2 : Int) - 52)).toNat = 52 - a.log2 - k := by omega
      have e2 : ((a.log2 : Int) - 52 - -(k : Int)).toNat = 0 := by omega
      rw [e1, e2, Nat.shiftLeft_eq]
      have e3 : a * 2 ^ k * 2 ^ (52 - a.log2 - k) = a * 2 ^ (52 - a.log2) := by
        rw [Nat.mul_assoc, ← Nat.pow_add]; congr 2; omega
      rw [e3]
      have := cut_mul .even neg (a * 2 ^ (52 - a.log2)) 0
      simpa using this
  rw [hk]
  congr 1
  have h1 : double.leastPlace = -1074 := by decide
  have h2 : double.binade = 2 ^ 52 := rfl
  have h3 : double.infRung = 2047 * 2 ^ 52 := by decide
  rw [h1, h2, h3]
  have e : ((a.log2 : Int) - 52 - -1074).toNat = a.log2 + 1022 := by omega
  rw [e]
  unfold rung
  refine Nat.min_eq_left ?_
  exact bnd _ _ hl hb.2

theorem near_zero (neg : Bool) (p : Int) : double.nearest neg 0 p = double.word neg 0 := by
  simp [Format.nearest]

theorem rung_bd {a : Nat} (ha : a ≠ 0) (h : a < 2 ^ 53) : rung a < 2 ^ 63 := by
  have hl := log2_lt53 h ha
  have hb := kept_bd ha h
  unfold rung
  have : (a.log2 + 1022) * 2 ^ 52 ≤ 1074 * 2 ^ 52 := Nat.mul_le_mul_right _ (by omega)
  omega

theorem read_word_zero (neg : Bool) : double.read (double.word neg 0) = .number neg 0 (-1074) := by
  cases neg <;> decide +kernel

theorem zero_num (neg : Bool) (k : Nat) (hk : k = 1074) : Datum.number neg 0 (-1074) = .number neg (0 * 2 ^ k) (-(k : Int)) := by
  rw [Nat.zero_mul, hk]; rfl
theorem read_nought (neg : Bool) : ∃ k : Nat, double.read (double.word neg 0) = .number neg (0 * 2 ^ k) (-(k : Int)) := by
  obtain ⟨k, hk⟩ : ∃ k : Nat, k = 1074 := ⟨_, rfl⟩
  exact ⟨k, (read_word_zero neg).trans (zero_num neg k hk)⟩

theorem read_word (neg : Bool) {a : Nat} (ha : a ≠ 0) (h : a < 2 ^ 53) : double.read (double.word neg (rung a)) = .number neg (a * 2 ^ (52 - a.log2)) (-((52 - a.log2 : Nat) : Int)) := by
  have hr := rung_bd ha h
  have hb := kept_bd ha h
  have hl := log2_lt53 h ha
  have hs : double.signWeight = 2 ^ 63 := rfl
  have hw : double.word neg (rung a) / double.signWeight % 2 = neg.toNat ∧ double.word neg (rung a) % double.signWeight = rung a := by
    unfold Format.word
    rw [hs]
    cases neg
    · simp; omega
    · simp; omega
  unfold Format.read
  simp only [hw.1, hw.2]
  have hbin : double.binade = 2 ^ 52 := rfl
  have hinf : double.infRung = 2047 * 2 ^ 52 := by decide
  have hle : double.leastPlace = -1074 := by decide
  obtain ⟨hd, hm⟩ : rung a / 2 ^ 52 = a.log2 + 1023 ∧ rung a % 2 ^ 52 = a * 2 ^ (52 - a.log2) - 2 ^ 52 := split _ _ hb.1 hb.2
  rw [hbin, hinf, hle, hd, hm]
  have n1 : ¬ rung a < 2 ^ 52 := by
    intro hh; have := Nat.div_eq_of_lt hh; omega
  have n2 : rung a < 2047 * 2 ^ 52 := by
    rw [← Nat.div_lt_iff_lt_mul (by decide : 0 < 2 ^ 52), hd]; omega
  rw [if_neg n1, if_pos n2]
  have e1 : (neg.toNat == 1) = neg := by cases neg <;> rfl
  rw [e1]
  have e2 : (-1074 : Int) + ((a.log2 + 1023 - 1 : Nat) : Int) = -((52 - a.log2 : Nat) : Int) := by omega
  rw [e2, Nat.add_sub_cancel' hb.1]

/-- 'x' is a float64 that stands for the whole number n: n itself, exactly; the sign of a nought is open. -/
def Rep (x : Nat) (n : Int) : Prop := ∃ (s : Bool) (k : Nat), double.read x = .number s (n.natAbs * 2 ^ k) (-(k : Int)) ∧ (n ≠ 0 → s = decide (n < 0))

theorem rep_word (neg : Bool) (a : Nat) (h : a < 2 ^ 53) (n : Int) (hn : n.natAbs = a) (hs : n ≠ 0 → neg = decide (n < 0)) (k : Nat) : Rep (double.nearest neg (a * 2 ^ k) (-(k : Int))) n := by
  by_cases ha : a = 0
  · subst ha
    rw [Nat.zero_mul, near_zero]
    obtain ⟨k, hk⟩ := read_nought neg
    exact ⟨neg, k, by rw [hk, hn], hs⟩
  · rw [near neg a k ha h]
    exact ⟨neg, 52 - a.log2, by rw [read_word neg ha h, hn], hs⟩

theorem rep_fl {n : Int} (h : n.natAbs < 2 ^ 53) : Rep (fl n) n := by
  have := rep_word (decide (n < 0)) n.natAbs h n rfl (fun _ => rfl) 0
  rw [Nat.pow_zero, Nat.mul_one] at this
  exact this

/-- what is written of a whole number, however scaled, is its float -/
theorem near_fl {n : Int} (h : n.natAbs < 2 ^ 53) (s : Bool) (hs : s = decide (n < 0)) (k : Nat) : double.nearest s (n.natAbs * 2 ^ k) (-(k : Int)) = fl n := by
  subst hs
  have e : fl n = double.nearest (decide (n < 0)) (n.natAbs * 2 ^ 0) (-((0 : Nat) : Int)) := by
    rw [Nat.pow_zero, Nat.mul_one]; rfl
  rw [e]
  by_cases ha : n.natAbs = 0
  · rw [ha, Nat.zero_mul, Nat.zero_mul, near_zero, near_zero]
  · rw [near _ _ k ha h, near _ _ 0 ha h]

theorem signed_eq (s : Bool) (a k l : Nat) : signed s (a * 2 ^ k) l = (if s then -(a : Int) else (a : Int)) * ((2 ^ (k + l) : Nat) : Int) := by
  unfold signed
  rw [Nat.shiftLeft_eq, Nat.mul_assoc, ← Nat.pow_add]
  cases s
  · simp
  · simp [Int.neg_mul]

theorem sign_val {s : Bool} {n : Int} (hs : n ≠ 0 → s = decide (n < 0)) : (if s then -(n.natAbs : Int) else (n.natAbs : Int)) = n := by
  by_cases h : n = 0
  · subst h; simp
  · rw [hs h]
    by_cases hn : n < 0
    · simp [hn]; omega
    · simp [hn]; omega


theorem some_lt {s : Bool} {n : Int} {p : Nat} (h : n ≠ 0) (hs : s = if n * ((2 ^ p : Nat) : Int) = 0 then true else decide (n * ((2 ^ p : Nat) : Int) < 0)) : s = decide (n < 0) := by
  have hp : (0 : Int) < ((2 ^ p : Nat) : Int) := by have := Nat.two_pow_pos p; omega
  rw [hs, if_neg (Int.mul_ne_zero h (by omega))]
  congr 1
  apply propext
  constructor
  · intro h
    by_cases hc : n < 0
    · exact hc
    · have := Int.mul_nonneg (a := n) (b := ((2 ^ p : Nat) : Int)) (by omega) (by omega)
      omega
  · intro h
    exact Int.mul_neg_of_neg_of_pos h hp

/-- the sum of two data that stand for whole numbers -/
theorem sum_rep {s t : Bool} {k l : Nat} {a b : Int} (hs : a ≠ 0 → s = decide (a < 0)) (ht : b ≠ 0 → t = decide (b < 0)) :
    ∃ u : Bool, (Datum.number s (a.natAbs * 2 ^ k) (-(k : Int))).sum (.number t (b.natAbs * 2 ^ l) (-(l : Int))) = some (.number u ((a + b).natAbs * 2 ^ (max k l)) (-((max k l : Nat) : Int))) ∧ (a + b ≠ 0 → u = decide (a + b < 0)) ∧ (a + b = 0 → u = (s && t)) := by
  simp only [Datum.sum]
  have hb : min (-(k : Int)) (-(l : Int)) = -((max k l : Nat) : Int) := by omega
  rw [hb]
  have e1 : (-(k : Int) - -((max k l : Nat) : Int)).toNat = max k l - k := by omega
  have e2 : (-(l : Int) - -((max k l : Nat) : Int)).toNat = max k l - l := by omega
  rw [e1, e2, signed_eq, signed_eq, sign_val hs, sign_val ht]
  have e3 : k + (max k l - k) = max k l := by omega
  have e4 : l + (max k l - l) = max k l := by omega
  rw [e3, e4, ← Int.add_mul, Int.natAbs_mul, Int.natAbs_natCast]
  refine ⟨_, rfl, fun h => ?_, fun h => ?_⟩
  · have hp : (0 : Int) < ((2 ^ max k l : Nat) : Int) := by have := Nat.two_pow_pos (max k l); omega
    rw [if_neg (Int.mul_ne_zero h (by omega))]
    congr 1
    apply propext
    constructor
    · intro h
      by_cases hc : a + b < 0
      · exact hc
      · have := Int.mul_nonneg (a := a + b) (b := ((2 ^ max k l : Nat) : Int)) (by omega) (by omega)
        omega
    · intro h
      exact Int.mul_neg_of_neg_of_pos h hp
  · rw [h, Int.zero_mul, if_pos rfl]

/-- '+' of whole numbers -/
theorem add_rep {x y : Nat} {a b : Int} (hx : Rep x a) (hy : Rep y b) (h : (a + b).natAbs < 2 ^ 53) : ∃ z, floatBits .add .f64 x y = some z ∧ Rep z (a + b) := by
  obtain ⟨s, k, hx, hs⟩ := hx
  obtain ⟨t, l, hy, ht⟩ := hy
  obtain ⟨u, he, hu, _⟩ := sum_rep (k := k) (l := l) hs ht
  have e : floatBits .add .f64 x y = some (double.nearest u ((a + b).natAbs * 2 ^ (max k l)) (-((max k l : Nat) : Int))) := by
    show ((double.read x).sum (double.read y)).map double.write = _
    rw [hx, hy, he]; rfl
  exact ⟨_, e, rep_word u _ h _ rfl hu _⟩

/-- '+ 0': the plain float -/
theorem add_zero {x : Nat} {a : Int} (hx : Rep x a) (h : a.natAbs < 2 ^ 53) : floatBits .add .f64 x 0 = some (fl a) := by
  obtain ⟨s, k, hx, hs⟩ := hx
  obtain ⟨l, h0⟩ : ∃ l : Nat, double.read 0 = .number false ((0 : Int).natAbs * 2 ^ l) (-(l : Int)) := read_nought false
  obtain ⟨u, he, hu, hz⟩ := sum_rep (k := k) (l := l) hs (b := 0) (t := false) (fun h => absurd rfl h)
  rw [Int.add_zero] at he hu hz
  have e : floatBits .add .f64 x 0 = some (double.nearest u (a.natAbs * 2 ^ (max k l)) (-((max k l : Nat) : Int))) := by
    show ((double.read x).sum (double.read 0)).map double.write = _
    rw [hx, h0, he]; rfl
  rw [e]
  refine congrArg some (near_fl h u ?_ _)
  by_cases h0 : a = 0
  · rw [hz h0, h0]; simp
  · exact hu h0

theorem opp_rep {y : Nat} {b : Int} (hy : Rep y b) : ∃ (t : Bool) (l : Nat), (double.read y).opposite = .number t ((-b).natAbs * 2 ^ l) (-(l : Int)) ∧ (-b ≠ 0 → t = decide (-b < 0)) := by
  obtain ⟨t, l, hy, ht⟩ := hy
  refine ⟨!t, l, by rw [hy, Int.natAbs_neg]; rfl, fun h => ?_⟩
  rw [ht (by omega)]
  by_cases hc : b < 0
  · have : ¬ 0 < b := by omega
    simp [hc]; omega
  · have : 0 < b := by omega
    simp [hc]; omega

theorem sub_rep {x y : Nat} {a b : Int} (hx : Rep x a) (hy : Rep y b) (h : (a - b).natAbs < 2 ^ 53) : ∃ z, floatBits .sub .f64 x y = some z ∧ Rep z (a - b) := by
  obtain ⟨t, l, hy, ht⟩ := opp_rep hy
  obtain ⟨s, k, hx, hs⟩ := hx
  obtain ⟨u, he, hu, _⟩ := sum_rep (k := k) (l := l) hs ht
  have e : floatBits .sub .f64 x y = some (double.nearest u ((a + -b).natAbs * 2 ^ (max k l)) (-((max k l : Nat) : Int))) := by
    show ((double.read x).sum (double.read y).opposite).map double.write = _
    rw [hx, hy, he]; rfl
  exact ⟨_, e, rep_word u _ (by rw [← Int.sub_eq_add_neg]; exact h) _ rfl hu _⟩

theorem mul_rep {x y : Nat} {a b : Int} (hx : Rep x a) (hy : Rep y b) (h : (a * b).natAbs < 2 ^ 53) : ∃ z, floatBits .mul .f64 x y = some z ∧ Rep z (a * b) := by
  obtain ⟨s, k, hx, hs⟩ := hx
  obtain ⟨t, l, hy, ht⟩ := hy
  have he : (Datum.number s (a.natAbs * 2 ^ k) (-(k : Int))).product (.number t (b.natAbs * 2 ^ l) (-(l : Int))) = some (.number (s ^^ t) ((a * b).natAbs * 2 ^ (k + l)) (-((k + l : Nat) : Int))) := by
    simp only [Datum.product]
    congr 2
    · rw [Int.natAbs_mul, Nat.pow_add, Nat.mul_mul_mul_comm]
    · omega
  have e : floatBits .mul .f64 x y = some (double.nearest (s ^^ t) ((a * b).natAbs * 2 ^ (k + l)) (-((k + l : Nat) : Int))) := by
    show ((double.read x).product (double.read y)).map double.write = _
    rw [hx, hy, he]; rfl
  refine ⟨_, e, rep_word _ _ h _ rfl (fun hne => ?_) _⟩
  have ha : a ≠ 0 := by intro h0; subst h0; simp at hne
  have hb : b ≠ 0 := by intro h0; subst h0; simp at hne
  rw [hs ha, ht hb]
  rcases Int.lt_or_gt_of_ne ha with h1 | h1 <;> rcases Int.lt_or_gt_of_ne hb with h2 | h2
  · have := Int.mul_pos_of_neg_of_neg h1 h2
    have e : ¬ a * b < 0 := by omega
    simp [h1, h2, e]
  · have := Int.mul_neg_of_neg_of_pos h1 h2
    have e : ¬ b < 0 := by omega
    simp [h1, e, this]
  · have := Int.mul_neg_of_pos_of_neg h1 h2
    have e : ¬ a < 0 := by omega
    simp [h2, e, this]
  · have := Int.mul_pos h1 h2
    have e : ¬ a * b < 0 := by omega
    have e1 : ¬ b < 0 := by omega
    have e2 : ¬ a < 0 := by omega
    simp [e, e1, e2]

theorem order_rep {x y : Nat} {a b : Int} (hx : Rep x a) (hy : Rep y b) : FloatKind.f64.format.order x y = some (compare a b) := by
  obtain ⟨s, k, hx, hs⟩ := hx
  obtain ⟨t, l, hy, ht⟩ := hy
  show (double.read x).order (double.read y) = _
  rw [hx, hy]
  simp only [Datum.order]
  have hb : min (-(k : Int)) (-(l : Int)) = -((max k l : Nat) : Int) := by omega
  rw [hb]
  have e1 : (-(k : Int) - -((max k l : Nat) : Int)).toNat = max k l - k := by omega
  have e2 : (-(l : Int) - -((max k l : Nat) : Int)).toNat = max k l - l := by omega
  rw [e1, e2, signed_eq, signed_eq, sign_val hs, sign_val ht]
  have e3 : k + (max k l - k) = max k l := by omega
  have e4 : l + (max k l - l) = max k l := by omega
  rw [e3, e4]
  have hp : (0 : Int) < ((2 ^ max k l : Nat) : Int) := by have := Nat.two_pow_pos (max k l); omega
  congr 1
  rcases Int.lt_trichotomy a b with h | h | h
  · have h2 := Int.mul_lt_mul_of_pos_right h hp
    rw [Int.compare_eq_lt.2 h, Int.compare_eq_lt.2 h2]
  · subst h; simp
  · have h2 := Int.mul_lt_mul_of_pos_right h hp
    rw [Int.compare_eq_gt.2 h, Int.compare_eq_gt.2 h2]

/-- cut towards zero: the same number -/
theorem trunc_rep {x : Nat} {a : Int} (hx : Rep x a) (h : a.natAbs < 2 ^ 53) : ∃ z, double.write ((double.read x).integral .zero) = z ∧ Rep z a := by
  obtain ⟨s, k, hx, hs⟩ := hx
  have e : (double.read x).integral .zero = .number s (a.natAbs * 2 ^ 0) (-((0 : Nat) : Int)) := by
    rw [hx]
    simp only [Datum.integral]
    have e1 : (-(k : Int)).toNat = 0 := by omega
    have e2 : (- -(k : Int)).toNat = k := by omega
    rw [e1, e2, Nat.shiftLeft_zero, cut_mul, Nat.pow_zero, Nat.mul_one]; rfl
  rw [e]
  exact ⟨_, rfl, rep_word s _ h _ rfl hs 0⟩

/-- read as an int: the number -/
theorem toInt_rep {x : Nat} {a : Int} (hx : Rep x a) (h1 : -(2 ^ 63) ≤ a) (h2 : a < 2 ^ 63) : floatToIntVal .f64 x .i64 = some a := by
  obtain ⟨s, k, hx, hs⟩ := hx
  have e : (FloatKind.f64.decode x).toInt .zero = some a := by
    show (double.read x).toInt .zero = _
    rw [hx]
    simp only [Datum.toInt, Datum.integral]
    have e1 : (-(k : Int)).toNat = 0 := by omega
    have e2 : (- -(k : Int)).toNat = k := by omega
    rw [e1, e2, Nat.shiftLeft_zero, cut_mul]
    have := signed_eq s a.natAbs 0 0
    rw [Nat.pow_zero, Nat.mul_one, sign_val hs] at this
    rw [this]; simp
  unfold floatToIntVal
  rw [e]
  have m1 : IntKind.i64.min = -(2 ^ 63) := by decide
  have m2 : IntKind.i64.max = 2 ^ 63 - 1 := by decide
  simp only [m1, m2]
  rw [if_pos ⟨h1, by omega⟩]
end Go.Fl
