/-
What is proved here: package comp's Components, by a contract.
-/
import Derived.Test.YtfgpaffcfkbjlaaCks
import Derived.Test.YtfgpaffcfkbjlaaOrd
import Derived.Test.YtfgpaffcfkbjlaaGps
set_option linter.unusedSimpArgs false
set_option linter.unusedVariables false
namespace Go.Proofs.Ytfgpaffcfkbjlaa
open Go.Cmp Go.RowKit
/-- the components, each behind those that it needs, and otherwise by their least numbers -/
structure Cmps (G : Gr) (S T : List (List Nat)) (out : List Nat) : Prop where
  grp : Groups G S
  ask : AskT G S T
  turn : InTurn T S.length out
  all : ∀ g, g < S.length → g ∈ out
  nd : out.Nodup
theorem len_sub : ∀ (l m : List Nat), l.Nodup → (∀ x ∈ l, x ∈ m) → l.length ≤ m.length
  | [], m, _, _ => Nat.zero_le _
  | a :: t, m, h, hs => by
    obtain ⟨h1, h2⟩ := List.nodup_cons.1 h
    have ha := hs a (by simp)
    have := len_sub t (m.erase a) h2 (fun x hx => (List.mem_erase_of_ne (fun (e : x = a) => h1 (by rw [← e]; exact hx))).2 (hs x (List.mem_cons_of_mem _ hx)))
    rw [List.length_erase_of_mem ha] at this
    have := List.length_pos_of_mem ha
    simp only [List.length_cons]
    omega
theorem cmps_lt {G : Gr} {S T : List (List Nat)} {out : List Nat} (h : Cmps G S T out) : ∀ k ∈ out, k < S.length := fun k hk => by
  obtain ⟨p, s, e⟩ := List.append_of_mem hk
  exact (h.turn p k s e).1
theorem cmps_len {G : Gr} {S T : List (List Nat)} {out : List Nat} (h : Cmps G S T out) : out.length = S.length := by
  refine Nat.le_antisymm (nodup_bound _ _ h.nd (cmps_lt h)) ?_
  have := len_sub (List.range S.length) out List.nodup_range (fun x hx => h.all x (List.mem_range.1 hx))
  simpa using this
def dE : Ent := ⟨0, none, [], 0⟩
theorem chk_ok {G : Gr} (hG : Ok G) (hn : G.length ≤ 1024) (hg : ∀ l ∈ G, l.length ≤ 1024) : chk (zg G) = 0 := by
  unfold chk
  have h1 : ¬ (1024 < (zg G).length ∨ (zg G).any longP = true) := by
    rintro (h | h)
    · simp at h; omega
    · obtain ⟨l, hl, h2⟩ := List.any_eq_true.1 h
      obtain ⟨l', hl', rfl⟩ := List.mem_map.1 hl
      have := hg l' hl'
      simp [longP, zs] at h2
      omega
  have h2 : ¬ (zg G).any (badP (zg G).length) = true := fun h => by
    obtain ⟨l, hl, h2⟩ := List.any_eq_true.1 h
    obtain ⟨l', hl', rfl⟩ := List.mem_map.1 hl
    unfold badP at h2
    obtain ⟨z, hz, h3⟩ := List.any_eq_true.1 h2
    obtain ⟨v, hv, rfl⟩ := List.mem_map.1 hz
    have := hG l' hl' v hv
    simp [noneP, zg] at h3
    omega
  rw [if_neg h1, if_neg h2]
theorem grps_pick {w2 w3 : World} {B : Nat} {A0 : Option Addr} {C0 : Nat} {es : List Ent} (h : Grps w2 B (.slice A0 es.length C0) es) (hb : Below w2.heap.size w2 w3) {A : Option Addr} {C : Nat} {out : List Nat} (hB : B ≤ w2.heap.size) (hlt : ∀ k ∈ out, k < es.length) (hnd : out.Nodup)
    (hrow : w3.ownsRow w2.heap.size 33 1 (.slice A out.length C) out.length (out.map fun k => (es.getD k dE).rv)) : Grps w3 B (.slice A (out.map fun k => es.getD k dE).length C) (out.map fun k => es.getD k dE) := by
  have hm : ∀ k, k < es.length → es.getD k dE ∈ es := fun k hk => by rw [List.getD_eq_getElem?_getD, List.getElem?_eq_getElem hk]; exact List.getElem_mem hk
  refine ⟨?_, fun e he => ?_, ?_⟩
  · rw [List.length_map, List.map_map]
    exact hrow.mono hB
  · obtain ⟨k, hk, rfl⟩ := List.mem_map.1 he
    exact own_but (h.own _ (hm k (hlt k hk))) (But.of_below (P := fun _ => False) hb) (fun _ _ h => h)
  · rw [List.pairwise_map]
    rw [List.nodup_iff_pairwise_ne] at hnd
    refine hnd.imp_of_mem (fun {a b} ha hb2 hne => ?_)
    have h1 := hlt a ha
    have h2 := hlt b hb2
    rw [List.getD_eq_getElem?_getD, List.getElem?_eq_getElem h1, List.getD_eq_getElem?_getD, List.getElem?_eq_getElem h2]
    have hp := List.pairwise_iff_getElem.1 h.sep
    rcases Nat.lt_or_gt_of_ne hne with h3 | h3
    · exact hp a b h1 h2 h3
    · exact apart_symm (hp b a h2 h1 h3)
/-- what Components tells of needs that are taken -/
def CpsE (G : Gr) (w : World) (e : Ending) (w' : World) : Prop := ∃ (A : Option Addr) (C : Nat) (es : List Ent) (T : Gr) (out : List Nat), e = .returned (.tuple #[.slice A out.length C, .int .i64 0]) ∧ Cmps G (es.map Ent.r) T out ∧ Grps w' w.heap.size (.slice A (out.map fun k => es.getD k dE).length C) (out.map fun k => es.getD k dE) ∧ Below w.heap.size w w'
set_option maxRecDepth 100000 in
set_option maxHeartbeats 2000000 in
theorem comps_any (LA : Option Addr) (lc : Nat) (G : Gr) (hG : Ok G) (hn : G.length ≤ 1024) (hg : ∀ l ∈ G, l.length ≤ 1024) (w : World) (hL : LsAt w LA (zg G)) :
    Calls Try.prog 10 #[.slice LA G.length lc] w (CpsE G w) := by
  have kc := check_any LA lc (zg G) w hL (by simp; omega) (fun l hl => by
    obtain ⟨l', hl', rfl⟩ := List.mem_map.1 hl
    have := hg l' hl'
    simp [zs]; omega)
  rw [chk_ok hG hn hg, show (zg G).length = G.length by simp [zg]] at kc
  have KC := Lib.hid kc
  have KG := Lib.hid (fun (W : World) (hb : Below w.heap.size w W) => groups_any LA lc G hG hn hg W (lsAt_below hL hb))
  have KO := Lib.hid (fun (W : World) (hb : Below w.heap.size w W) (B0 : Nat) (GA : Option Addr) (gc : Nat) (es : List Ent) (hS : Groups G (es.map Ent.r)) (hE : Grps W B0 (.slice GA es.length gc) es) => ordered_any B0 LA GA lc gc G es hG hS hn hg W (lsAt_below hL hb) hE)
  generalize G.length = n at *
  clear kc hL
  go_enter Try.func10, Try.ntmps10
  go_wp2_with (first
    | (go_at_call 20; (with_reducible refine KC.out.mono ?_); rintro e w1 ⟨rfl, hb⟩; have B1 := Lib.hid hb; have K1 := Lib.hid (KG.out w1 hb); clear hb)
    | (go_at_call 22; (with_reducible refine K1.out.mono ?_); rintro e w2 ⟨GA, gc, es, rfl, hS, hE, hb⟩; have B2 := Lib.hid hb; have HS := Lib.hid hS; have HE := Lib.hid hE; have K2 := Lib.hid (KO.out w2 (B1.out.trans (hb.mono B1.out.size)) _ GA gc es hS hE); clear hb hS hE)
    | (go_at_call 21; (with_reducible refine K2.out.mono ?_); rintro e w3 ⟨T, hT, A, C, out, rfl, h1, h2, h3, h4, h5⟩; have HT := Lib.hid hT; have H1 := Lib.hid h1; have H2 := Lib.hid h2; have H3 := Lib.hid h3; have H4 := Lib.hid h4; have H5 := Lib.hid h5; clear hT h1 h2 h3 h4 h5))
  go_ret2
  refine ⟨A, C, es, T, out, rfl, ⟨HS.out, HT.out, by rw [List.length_map]; exact H1.out, by rw [List.length_map]; exact H2.out, H3.out⟩, ?_, B1.out.trans ((B2.out.mono B1.out.size).trans (H5.out.mono (by have := B1.out.size; have := B2.out.size; omega)))⟩
  have := grps_pick HE.out H5.out (A := A) (C := C) (out := out) B2.out.size (fun k hk => by
    obtain ⟨p, s, e⟩ := List.append_of_mem hk
    exact (H1.out p k s e).1) H3.out H4.out
  exact ⟨this.row.mono B1.out.size, fun e he => (this.own e he).mono B1.out.size, this.sep⟩
end Go.Proofs.Ytfgpaffcfkbjlaa
