/-
What is proved here: paths as lists of bytes: their parts, what is a name, what is a path; what a look from left to right tells. It names no program.
-/
namespace Go.Pth
abbrev Bt := List UInt8

/-- may a name have this byte -/
def okb (c : UInt8) : Bool := decide (97 ≤ c.toNat ∧ c.toNat ≤ 122 ∨ 48 ≤ c.toNat ∧ c.toNat ≤ 57 ∨ c.toNat = 46 ∨ c.toNat = 95 ∨ c.toNat = 45)
def stands (n : Bt) : Bool := decide (n ≠ [] ∧ n ≠ [46] ∧ n ≠ [46, 46])
def isName (n : Bt) : Bool := stands n && decide (n.length ≤ 14) && n.all okb
/-- what stands between the slashes, the first and the others -/
def cutAt : Bt → Bt × List Bt
  | [] => ([], [])
  | c :: r => if c = 47 then ([], (cutAt r).1 :: (cutAt r).2) else (c :: (cutAt r).1, (cutAt r).2)
def parts (s : Bt) : List Bt := (cutAt s).1 :: (cutAt s).2
def isPath (s : Bt) : Bool := decide ((parts s).length ≤ 6) && (parts s).all isName
/-- the look from left to right: at part d, of which cur has come -/
def scan : Nat → Bt → Bt → Bool
  | _, cur, [] => stands cur
  | d, cur, c :: r => if c = 47 then (if d = 6 ∨ stands cur = false then false else scan (d + 1) [] r) else if cur.length = 14 ∨ okb c = false then false else scan d (cur ++ [c]) r

theorem okb_slash : okb 47 = false := by decide
theorem scan_eq (d : Nat) (cur r : Bt) (hd : d ≤ 6) (hl : cur.length ≤ 14) (hc : cur.all okb = true) :
    scan d cur r = (decide (d + (cutAt r).2.length ≤ 6) && (isName (cur ++ (cutAt r).1) && (cutAt r).2.all isName)) := by
  induction r generalizing d cur with
  | nil => simp [scan, cutAt, isName, hd, hl, hc]
  | cons c r ih =>
    by_cases h : c = 47
    · subst h
      simp only [scan, cutAt, if_true, List.length_cons, List.append_nil, List.all_cons]
      by_cases h6 : d = 6 ∨ stands cur = false
      · rw [if_pos h6]
        rcases h6 with rfl | h6
        · have : ¬ 6 + ((cutAt r).2.length + 1) ≤ 6 := by omega
          simp [this]
        · have : isName cur = false := by simp [isName, h6]
          simp [this]
      · rw [if_neg h6]
        have h1 : d ≠ 6 := fun e => h6 (Or.inl e)
        have h2 : stands cur = true := by cases hs : stands cur with
          | true => rfl
          | false => exact absurd (Or.inr hs) h6
        have hn : isName cur = true := by simp [isName, h2, hl, hc]
        rw [ih (d + 1) [] (by omega) (by simp) (by simp), hn]
        have e : d + 1 + (cutAt r).2.length = d + ((cutAt r).2.length + 1) := by omega
        rw [e]
        simp
    · simp only [scan, cutAt, h, if_false]
      by_cases hb : cur.length = 14 ∨ okb c = false
      · rw [if_pos hb]
        have : isName (cur ++ c :: (cutAt r).1) = false := by
          rcases hb with hb | hb
          · have : ¬ (cur ++ c :: (cutAt r).1).length ≤ 14 := by simp; omega
            simp only [isName, decide_eq_false this, Bool.and_false, Bool.false_and]
          · have : (cur ++ c :: (cutAt r).1).all okb = false := by simp [hb]
            simp only [isName, this, Bool.and_false]
        simp [this]
      · rw [if_neg hb]
        have h1 : cur.length ≠ 14 := fun e => hb (Or.inl e)
        have h2 : okb c = true := by cases hs : okb c with
          | true => rfl
          | false => exact absurd (Or.inr hs) hb
        rw [ih d (cur ++ [c]) hd (by simp; omega) (by simp [hc, h2])]
        simp
theorem scan_path (s : Bt) : scan 1 [] s = isPath s := by
  rw [scan_eq 1 [] s (by omega) (by simp) (by simp)]
  simp only [isPath, parts, List.length_cons, List.nil_append, List.all_cons]
  rw [show 1 + (cutAt s).2.length = (cutAt s).2.length + 1 by omega]
  rfl
end Go.Pth
