/-
What is proved here: the state behind the whole parts of some bytes; what fills bytes up to whole parts; the digest. Plain functions and what holds of them. It names no program.
-/
import Derived.Test.YtlnmaejpchncoaaDoorPure
namespace Go.Word

theorem own16_congr {p q : Nat → BitVec 8} (h : ∀ j, j < 64 → p j = q j) {i : Nat} (hi : i < 16) : own16 p i = own16 q i := by
  unfold own16
  rw [h _ (by omega), h _ (by omega), h _ (by omega), h _ (by omega)]
theorem words_congr {p q : Nat → BitVec 8} (h : ∀ j, j < 64 → p j = q j) (k : Nat) : words p k = words q k := by
  induction k with
  | zero =>
    unfold words
    refine List.map_congr_left fun i hi => own16_congr h ?_
    simpa using hi
  | succ k ih => unfold words; rw [ih]
theorem word_congr {p q : Nat → BitVec 8} (h : ∀ j, j < 64 → p j = q j) : word p = word q := by
  funext j; unfold word; rw [words_congr h]
theorem mixed_congr {p q : Nat → BitVec 8} (K : Nat → BitVec 32) (s : St) (h : ∀ j, j < 64 → p j = q j) : mixed K s p = mixed K s q := by
  unfold mixed; rw [word_congr h]

/-- the state of no bytes -/
def st0 : St := ⟨0x6a09e667, 0xbb67ae85, 0x3c6ef372, 0xa54ff53a, 0x510e527f, 0x9b05688c, 0x1f83d9ab, 0x5be0cd19⟩
/-- the state behind so many whole parts of l -/
def chain (K : Nat → BitVec 32) (l : List (BitVec 8)) : Nat → St
  | 0 => st0
  | k + 1 => mixed K (chain K l k) fun j => l.getD (64 * k + j) 0
theorem getD_left (l b : List (BitVec 8)) {i : Nat} (h : i < l.length) : (l ++ b).getD i 0 = l.getD i 0 := by
  simp [List.getD_eq_getElem?_getD, List.getElem?_append_left h]
theorem getD_right (l b : List (BitVec 8)) {i : Nat} (h : l.length ≤ i) : (l ++ b).getD i 0 = b.getD (i - l.length) 0 := by
  simp [List.getD_eq_getElem?_getD, List.getElem?_append_right h]
theorem chain_append (K : Nat → BitVec 32) (l b : List (BitVec 8)) (k : Nat) (h : 64 * k ≤ l.length) : chain K (l ++ b) k = chain K l k := by
  induction k with
  | zero => rfl
  | succ k ih =>
    unfold chain
    rw [ih (by omega)]
    exact mixed_congr K _ fun j hj => getD_left l b (by omega)

/-- how many bytes stand behind n bytes ahead of the 8 that tell how many there were -/
def gap (n : Nat) : Nat := 64 - (n + 8) % 64
/-- byte j of what fills n bytes up -/
def padAt (n j : Nat) : BitVec 8 := if j = 0 then 0x80 else if j < gap n then 0 else BitVec.ofNat 8 (n * 8 / 2 ^ (56 - 8 * (j - gap n)))
def pad (n : Nat) : List (BitVec 8) := (List.range (gap n + 8)).map (padAt n)
theorem gap_pos (n : Nat) : 0 < gap n ∧ gap n ≤ 64 := by unfold gap; omega
theorem pad_len (n : Nat) : (pad n).length = gap n + 8 := by simp [pad]
theorem pad_at (n : Nat) {j : Nat} (h : j < gap n + 8) : (pad n).getD j 0 = padAt n j := by simp [pad, List.getD_eq_getElem?_getD, h]
theorem pad_whole (n : Nat) : (n + (gap n + 8)) % 64 = 0 := by unfold gap; omega
/-- the bytes filled up -/
def full (l : List (BitVec 8)) : List (BitVec 8) := l ++ pad l.length
/-- byte i of a state -/
def St.byte (s : St) (i : Nat) : BitVec 8 := low (s.at (i / 4) >>> (24 - 8 * (i % 4)))
def last (K : Nat → BitVec 32) (l : List (BitVec 8)) : St := chain K (full l) ((full l).length / 64)
/-- the digest -/
def sha (K : Nat → BitVec 32) (l : List (BitVec 8)) (i : Nat) : BitVec 8 := (last K l).byte i
end Go.Word
