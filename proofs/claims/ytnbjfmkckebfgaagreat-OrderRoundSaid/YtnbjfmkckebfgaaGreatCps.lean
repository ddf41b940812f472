/-
What is proved here: package comp's Components, by a contract.
-/
import Derived.Test.YtnbjfmkckebfgaaGreatCks
import Derived.Test.YtnbjfmkckebfgaaGreatOrd
import Derived.Test.YtnbjfmkckebfgaaGreatGps
set_option linter.unusedSimpArgs false
set_option linter.unusedVariables false
namespace Go.Proofs.YtnbjfmkckebfgaaGreat
open Go.Cmp Go.RowKit
/-- the components, each behind those that it needs, and otherwise by their least numbers -/
structure Cmps (G : Gr) (S T : List (List Nat)) (out : List Nat) : Prop where
  grp : Groups G S
  ask : AskT G S T
  turn : InTurn T S.length out
  all : ∀ g, g < S.length → g ∈ out
  nd : out.Nodup
theorem len_sub : ∀ (l m : List Nat), l.Nodup → (∀ x ∈ l, x ∈ m) → l.length ≤ m.length
  | [], m, _, _ => Nat.zero_le _
  | a :: t, m, h, hs => by
    obtain ⟨h1, h2⟩ := List.nodup_cons.1 h
    have ha := hs a (by simp)
    have := len_sub t (m.erase a) h2 (fun x hx => (List.mem_erase_of_ne (fun (e : x = a) => h1 (by rw [← e]; exact hx))).2 (hs x (List.mem_cons_of_mem _ hx)))
    rw [List.length_erase_of_mem ha] at this
    have := List.length_pos_of_mem ha
    simp only [List.length_cons]
    omega
theorem cmps_lt {G : Gr} {S T : List (List Nat)} {out : List Nat} (h : Cmps G S T out) : ∀ k ∈ out, k < S.length := fun k hk => by
  obtain ⟨p, s, e⟩ := List.append_of_mem hk
  exact (h.turn p k s e).1
theorem cmps_len {G : Gr} {S T : List (List Nat)} {out : List Nat} (h : Cmps G S T out) : out.length = S.length := by
  refine Nat.le_antisymm (nodup_bound _ _ h.nd (cmps_lt h)) ?_
  have := len_sub (List.range S.length) out List.nodup_range (fun x hx => h.all x (List.mem_range.1 hx))
  simpa using this
def dE : Ent := ⟨0, none, [], 0⟩
theorem chk_ok {G : Gr} (hG : Ok G) (hn : G.length ≤ 1024) (hg : ∀ l ∈ G, l.length ≤ 1024) : chk (zg G) = 0 := by
  unfold chk
  have h1 : ¬ (1024 < (zg G).length ∨ (zg G).any longP = true) := by
    rintro (h | h)
    · simp at h; omega
    · obtain ⟨l, hl, h2⟩ := List.any_eq_true.1 h
      obtain ⟨l', hl', rfl⟩ := List.mem_map.1 hl
      have := hg l' hl'
      simp [longP, zs] at h2
      omega
  have h2 : ¬ (zg G).any (badP (zg G).length) = true := fun h => by
    obtain ⟨l, hl, h2⟩ := List.any_eq_true.1 h
    obtain ⟨l', hl', rfl⟩ := List.mem_map.1 hl
    unfold badP at h2
    obtain ⟨z, hz, h3⟩ := List.any_eq_true.1 h2
    obtain ⟨v, hv, rfl⟩ := List.mem_map.1 hz
    have := hG l' hl' v hv
    simp [noneP, zg] at h3
    omega
  rw [if_neg h1, if_neg h2]
theorem grps_pick {w2 w3 : World} {B : Nat} {A0 : Option Addr} {C0 : Nat} {es : List Ent} (h : Grps w2 B (.slice A0 es.length C0) es) (hb : Below w2.heap.size w2 w3) {A : Option Addr} {C : Nat} {out : List Nat} (hB : B ≤ w2.heap.size) (hlt : ∀ k ∈ out, k < es.length) (hnd : out.Nodup)
    (hrow : w3.ownsRow w2.heap.size 27 1 (.slice A out.length C) out.length (out.map fun k => (es.getD k dE).rv)) : Grps w3 B (.slice A (out.map fun k => es.getD k dE).length C) (out.map fun k => es.getD k dE) := by
  have hm : ∀ k, k < es.length → es.getD k dE ∈ es := fun k hk => by rw [List.getD_eq_getElem?_getD, List.getElem?_eq_getElem hk]; exact List.getElem_mem hk
  refine ⟨?_, fun e he => ?_, ?_⟩
  · rw [List.length_map, List.map_map]
    exact hrow.mono hB
  · obtain ⟨k, hk, rfl⟩ := List.mem_map.1 he
    exact own_but (h.own _ (hm k (hlt k hk))) (But.of_below (P := fun _ => False) hb) (fun _ _ h => h)
  · rw [List.pairwise_map]
    rw [List.nodup_iff_pairwise_ne] at hnd
    refine hnd.imp_of_mem (fun {a b} ha hb2 hne => ?_)
    have h1 := hlt a ha
    have h2 := hlt b hb2
    rw [List.getD_eq_getElem?_getD, List.getElem?_eq_getElem h1, List.getD_eq_getElem?_getD, List.getElem?_eq_getElem h2]
    have hp := List.pairwise_iff_getElem.1 h.sep
    rcases Nat.lt_or_gt_of_ne hne with h3 | h3
    · exact hp a b h1 h2 h3
    · exact apart_symm (hp b a h2 h1 h3)
/-- what Components tells of needs that are taken -/
def CpsE (G : Gr) (w : World) (e : Ending) (w' : World) : Prop := ∃ (A : Option Addr) (C : Nat) (es : List Ent) (T : Gr) (out : List Nat), e = .returned (.tuple #[.slice A out.length C, .int .i64 0]) ∧ Cmps G (es.map Ent.r) T out ∧ Grps w' w.heap.size (.slice A (out.map fun k => es.getD k dE).length C) (out.map fun k => es.getD k dE) ∧ Below w.heap.size w w'
end Go.Proofs.YtnbjfmkckebfgaaGreat
