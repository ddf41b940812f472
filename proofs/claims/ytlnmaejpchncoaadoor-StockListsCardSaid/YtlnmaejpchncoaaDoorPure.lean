/-
What is proved here: the plain functions that package sum's calls answer, on bit vectors: a part's 64 words, a round, a part mixed in; and what holds of them. It names no program.
-/
namespace Go.Word

/-- a word turned to the right -/
def rot (x : BitVec 32) (n : Nat) : BitVec 32 := x <<< (32 - n) ||| x >>> n
/-- the word of a byte -/
def wide (x : BitVec 8) : BitVec 32 := x.setWidth 32
/-- a word's lowest byte -/
def low (x : BitVec 32) : BitVec 8 := x.setWidth 8

/-- one of the 16 words of a part itself -/
def own16 (p : Nat → BitVec 8) (i : Nat) : BitVec 32 := wide (p (4 * i)) <<< 24 ||| wide (p (4 * i + 1)) <<< 16 ||| wide (p (4 * i + 2)) <<< 8 ||| wide (p (4 * i + 3))
def sig0 (x : BitVec 32) : BitVec 32 := rot x 7 ^^^ rot x 18 ^^^ x >>> 3
def sig1 (x : BitVec 32) : BitVec 32 := rot x 17 ^^^ rot x 19 ^^^ x >>> 10
/-- the words so far, 16 + k of them -/
def words (p : Nat → BitVec 8) : Nat → List (BitVec 32)
  | 0 => (List.range 16).map (own16 p)
  | k + 1 => words p k ++ [(words p k).getD k 0 + sig0 ((words p k).getD (k + 1) 0) + (words p k).getD (k + 9) 0 + sig1 ((words p k).getD (k + 14) 0)]
/-- the words of a part -/
def word (p : Nat → BitVec 8) (j : Nat) : BitVec 32 := (words p 48).getD j 0

theorem words_len (p : Nat → BitVec 8) (k : Nat) : (words p k).length = 16 + k := by
  induction k with
  | zero => simp [words]
  | succ k ih => simp [words, ih]; omega
theorem words_stay (p : Nat → BitVec 8) (k n j : Nat) (hj : j < 16 + k) : (words p (k + n)).getD j 0 = (words p k).getD j 0 := by
  induction n with
  | zero => rfl
  | succ n ih =>
    rw [← ih, show k + (n + 1) = (k + n) + 1 by omega, words]
    rw [List.getD_eq_getElem?_getD, List.getElem?_append_left (by rw [words_len]; omega), ← List.getD_eq_getElem?_getD]
theorem word_of (p : Nat → BitVec 8) (k j : Nat) (hk : k ≤ 48) (hj : j < 16 + k) : (words p k).getD j 0 = word p j := by
  have := words_stay p k (48 - k) j hj
  rw [show k + (48 - k) = 48 by omega] at this
  exact this.symm
theorem word_low (p : Nat → BitVec 8) (i : Nat) (h : i < 16) : word p i = own16 p i := by
  rw [← word_of p 0 i (by omega) (by omega)]
  simp [words, List.getD_eq_getElem?_getD, h]
theorem word_next (p : Nat → BitVec 8) (k : Nat) (h : k < 48) : word p (k + 16) = word p k + sig0 (word p (k + 1)) + word p (k + 9) + sig1 (word p (k + 14)) := by
  rw [← word_of p (k + 1) (k + 16) (by omega) (by omega), words, List.getD_eq_getElem?_getD, List.getElem?_append_right (by rw [words_len]; omega), words_len,
    show k + 16 - (16 + k) = 0 by omega]
  rw [word_of p k k (by omega) (by omega), word_of p k (k + 1) (by omega) (by omega), word_of p k (k + 9) (by omega) (by omega), word_of p k (k + 14) (by omega) (by omega)]
  rfl

/-- the state: eight words -/
structure St where
  a : BitVec 32
  b : BitVec 32
  c : BitVec 32
  d : BitVec 32
  e : BitVec 32
  f : BitVec 32
  g : BitVec 32
  h : BitVec 32
deriving DecidableEq
def St.at (s : St) : Nat → BitVec 32
  | 0 => s.a | 1 => s.b | 2 => s.c | 3 => s.d | 4 => s.e | 5 => s.f | 6 => s.g | _ => s.h
def big1 (e : BitVec 32) : BitVec 32 := rot e 6 ^^^ rot e 11 ^^^ rot e 25
def big0 (a : BitVec 32) : BitVec 32 := rot a 2 ^^^ rot a 13 ^^^ rot a 22
def ch (e f g : BitVec 32) : BitVec 32 := e &&& f ^^^ ~~~e &&& g
def maj (a b c : BitVec 32) : BitVec 32 := a &&& b ^^^ a &&& c ^^^ b &&& c
def St.t (s : St) (k w : BitVec 32) : BitVec 32 := s.h + big1 s.e + ch s.e s.f s.g + k + w
def St.u (s : St) : BitVec 32 := big0 s.a + maj s.a s.b s.c
def St.round (s : St) (k w : BitVec 32) : St := ⟨s.t k w + s.u, s.a, s.b, s.c, s.d + s.t k w, s.e, s.f, s.g⟩
/-- the first so many rounds -/
def rounds (K W : Nat → BitVec 32) (s : St) : Nat → St
  | 0 => s
  | n + 1 => (rounds K W s n).round (K n) (W n)
def St.plus (s r : St) : St := ⟨s.a + r.a, s.b + r.b, s.c + r.c, s.d + r.d, s.e + r.e, s.f + r.f, s.g + r.g, s.h + r.h⟩
/-- a part mixed in -/
def mixed (K : Nat → BitVec 32) (s : St) (p : Nat → BitVec 8) : St := s.plus (rounds K (word p) s 64)
end Go.Word
