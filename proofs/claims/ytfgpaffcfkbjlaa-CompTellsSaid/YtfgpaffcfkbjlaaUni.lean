/-
What is proved here: package comp's Components and Round of whatever needs, taken or not, in one form.
-/
import Derived.Test.YtfgpaffcfkbjlaaRno
import Derived.Test.YtfgpaffcfkbjlaaPmo
import Derived.Test.YtfgpaffcfkbjlaaPts
import Derived.Test.YtfgpaffcfkbjlaaLiv
set_option linter.unusedSimpArgs false
set_option linter.unusedVariables false
namespace Go.Proofs.Ytfgpaffcfkbjlaa
open Go.Cmp Go.RowKit
/-- what either tells: lists of one's own -/
structure UniE (N : List (List Int)) (P : Gr → Gr → Prop) (w : World) (e : Ending) (w' : World) (A : Option Addr) (C : Nat) (es : List Ent) : Prop where
  eq : e = .returned (.tuple #[.slice A es.length C, .int .i64 (chk N)])
  grp : Grps w' w.heap.size (.slice A es.length C) es
  low : Below w.heap.size w w'
  bad : chk N ≠ 0 → es = []
  good : ∀ G, N = zg G → Ok G → G.length ≤ 1024 → (∀ l ∈ G, l.length ≤ 1024) → P G (es.map Ent.r)
  len : es.length ≤ 1024 ∧ ∀ e ∈ es, e.r.length ≤ 1024
theorem zs_inj : ∀ {l m : List Nat}, zs l = zs m → l = m
  | [], [], _ => rfl
  | [], b :: t, h => by cases h
  | a :: s, [], h => by cases h
  | a :: s, b :: t, h => by
    have h1 : (a : Int) = (b : Int) := by simpa [zs] using (List.cons.inj h).1
    have h2 : zs s = zs t := (List.cons.inj h).2
    have : a = b := by omega
    rw [this, zs_inj h2]
theorem zg_inj : ∀ {G G' : Gr}, zg G = zg G' → G = G'
  | [], [], _ => rfl
  | [], b :: t, h => by cases h
  | a :: s, [], h => by cases h
  | a :: s, b :: t, h => by
    have h1 := zs_inj (List.cons.inj h).1
    have h2 : zg s = zg t := (List.cons.inj h).2
    rw [h1, zg_inj h2]
def PC (G L : Gr) : Prop := ∃ S T out, Cmps G S T out ∧ L = out.map fun k => nx S k
def PR (G L : Gr) : Prop := ∃ S, Groups G S ∧ L = S.filter fun r => !stillP G r
theorem grp_each {G S : Gr} (h : Groups G S) : S.length ≤ G.length ∧ ∀ g ∈ S, g.length ≤ G.length :=
  ⟨groups_len h, fun g hg => nodup_bound _ _ ((h.up g hg).imp (fun {a b} h => Nat.ne_of_lt h)) (h.lt g hg)⟩
theorem none_grp (w w' : World) (B : Nat) : Grps w' B (.slice none 0 0) [] := ⟨World.ownsRow_nil _ _ _ _, (fun e he => by cases he), .nil⟩
theorem comps_uni (A : Option Addr) (c : Nat) (N : List (List Int)) (w : World) (hL : LsAt w A N) (hn : N.length ≤ 1000000000) (hs : ∀ l ∈ N, l.length ≤ 1000000000) :
    Calls Try.prog 10 #[.slice A N.length c] w fun e w' => ∃ A' C es, UniE N PC w e w' A' C es := by
  by_cases hc : chk N = 0
  · obtain ⟨G, rfl, hG, h1, h2⟩ := zg_of hc
    rw [zg_len]
    refine (comps_any A c G hG h1 h2 w hL).mono fun e w' ⟨A', C, es, T, out, he, hC, hGr, hB⟩ => ?_
    have hm : (out.map fun k => es.getD k dE).map Ent.r = out.map fun k => nx (es.map Ent.r) k := by
      rw [List.map_map]
      refine List.map_congr_left fun k hk => ?_
      show (es.getD k dE).r = nx (es.map Ent.r) k
      unfold nx
      rw [List.getD_eq_getElem?_getD, List.getD_eq_getElem?_getD, List.getElem?_map]
      cases es[k]? <;> rfl
    have hb := grp_each hC.grp
    refine ⟨A', C, out.map fun k => es.getD k dE, ⟨by rw [hc, List.length_map]; exact he, hGr, hB, fun h => absurd hc h, fun G' e' _ _ _ => ?_, ?_, fun e' he' => ?_⟩⟩
    · obtain rfl := zg_inj e'
      exact ⟨es.map Ent.r, T, out, hC, hm⟩
    · rw [List.length_map, cmps_len hC]
      omega
    · have h9 : e'.r ∈ (out.map fun k => es.getD k dE).map Ent.r := List.mem_map.2 ⟨e', he', rfl⟩
      rw [hm] at h9
      obtain ⟨k, hk, e9⟩ := List.mem_map.1 h9
      have := hb.2 _ (nx_mem (cmps_lt hC k hk))
      have e9 : nx (es.map Ent.r) k = e'.r := e9
      rw [← e9]
      omega
  · exact (comps_bad A c N w hL hn hs hc).mono fun e w' ⟨he, hB⟩ => ⟨none, 0, [], ⟨he, none_grp w w' _, hB, fun _ => rfl, fun G e h1 h2 h3 => absurd (by rw [e]; exact chk_ok h1 h2 h3) hc, by simp, fun e he => by cases he⟩⟩
theorem round_uni (A : Option Addr) (c : Nat) (N : List (List Int)) (w : World) (hL : LsAt w A N) (hn : N.length ≤ 1000000000) (hs : ∀ l ∈ N, l.length ≤ 1000000000) :
    Calls Try.prog 11 #[.slice A N.length c] w fun e w' => ∃ A' C es, UniE N PR w e w' A' C es := by
  by_cases hc : chk N = 0
  · obtain ⟨G, rfl, hG, h1, h2⟩ := zg_of hc
    rw [zg_len]
    refine (round_all A c G hG h1 h2 w hL).mono fun e w' ⟨A', C, es, he, hS, hGr, hB⟩ => ?_
    have hb := grp_each hS
    have hm : (es.filter fun e => !stillP G e.r).map Ent.r = (es.map Ent.r).filter fun r => !stillP G r := by
      rw [List.filter_map]
      rfl
    refine ⟨A', C, es.filter fun e => !stillP G e.r, ⟨by rw [hc]; exact he, hGr, hB, fun h => absurd hc h, fun G' e' _ _ _ => ?_, ?_, fun e' he' => ?_⟩⟩
    · obtain rfl := zg_inj e'
      exact ⟨es.map Ent.r, hS, hm⟩
    · have h9 := List.length_filter_le (fun e : Ent => !stillP G e.r) es
      have h8 := hb.1
      rw [List.length_map] at h8
      omega
    · have := hb.2 e'.r (List.mem_map.2 ⟨e', (List.mem_filter.1 he').1, rfl⟩)
      omega
  · exact (round_bad A c N w hL hn hs hc).mono fun e w' ⟨he, hB⟩ => ⟨none, 0, [], ⟨he, none_grp w w' _, hB, fun _ => rfl, fun G e h1 h2 h3 => absurd (by rw [e]; exact chk_ok h1 h2 h3) hc, by simp, fun e he => by cases he⟩⟩
end Go.Proofs.Ytfgpaffcfkbjlaa
