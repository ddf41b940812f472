/-
What is proved here: law CompRow, by a contract.
-/
import Derived.Test.YtfgpaffcfkbjlaaRml
import Derived.Test.YtfgpaffcfkbjlaaTls
import Derived.Deep.AppendLies
import Derived.RegionTactic
import Derived.Test.YtfgpaffcfkbjlaaRig
import Derived.Test.YtfgpaffcfkbjlaaRio
import Derived.BigQuiet
import Derived.Deep.QuietTactic
import Derived.Deep.RegionLaw
set_option linter.unusedSimpArgs false
set_option linter.unusedVariables false
namespace Go.Proofs.Ytfgpaffcfkbjlaa
open Go.Cmp Go.RowKit
/-- the sizes, as far as they were looked at -/
def Szs (sizes : List Int) (ns : List Nat) : Prop := ∀ j, j < ns.length → (∀ h : j < sizes.length, sizes[j] = (ns.getD j 0 : Int)) ∧ 1 ≤ ns.getD j 0 ∧ ns.getD j 0 ≤ 9
def Fst5 (ns F : List Nat) : Prop := F = (List.range ns.length).map (fs ns)
structure L1 (W0 : World) (sizes : List Int) (ns : List Nat) (es : List Ent) (F : List Nat) (V4 V5 : Value) (W : World) : Prop where
  sz : Szs sizes ns
  rig : Rig ns 0 (es.map Ent.r)
  fst : Fst5 ns F
  mem : RM W0 V4 es V5 F W
theorem l1_0 (W0 : World) (sizes : List Int) : L1 W0 sizes [] [] [] (.slice none 0 0) (.slice none 0 0) W0 := ⟨(fun j hj => by cases hj), rig_nil, rfl, rm_0 W0⟩
theorem szs_snoc {sizes : List Int} {ns : List Nat} (h : Szs sizes ns) {n : Nat} (hn : 1 ≤ n ∧ n ≤ 9) (hs : ∀ h : ns.length < sizes.length, sizes[ns.length] = (n : Int)) : Szs sizes (ns ++ [n]) := fun j hj => by
  rw [getD_snoc]
  by_cases h1 : j < ns.length
  · rw [if_pos h1]; exact h j h1
  · have : j = ns.length := by simp at hj; omega
    subst this
    rw [if_neg h1, if_pos rfl]
    exact ⟨hs, hn⟩
theorem fst_snoc {ns F : List Nat} (h : Fst5 ns F) (n : Nat) : Fst5 (ns ++ [n]) (F ++ [fs ns ns.length]) := by
  unfold Fst5 at *
  rw [List.length_append, List.length_singleton, List.range_succ, List.map_append, h]
  congr 1
  · refine List.map_congr_left fun i hi => ?_
    rw [fs_snoc (by have := List.mem_range.1 hi; omega)]
  · simp [fs_snoc]
theorem rm_fresh {W0 W : World} {V4 V5 : Value} {es : List Ent} {F : List Nat} (h : RM W0 V4 es V5 F W) {k : Nat} (hk : W.heap.size ≤ k) : V5.ownBlock ≠ some k ∧ ∀ e' ∈ es, e'.rv.ownBlock ≠ some k :=
  ⟨fun e => by have := (own_heap h.own5 k e).2.1; omega, fun e' he e => by have := (own_heap (h.grp.own e' he) k e).2.1; omega⟩
/-- one list more of one number -/
theorem rm_one {W0 W W' : World} {V4 V5 : Value} {es : List Ent} {F : List Nat} (h : RM W0 V4 es V5 F W) {x G C : Nat} (ho : W'.ownsRow W0.heap.size 33 1 (.slice (some ⟨G, 0, none⟩) (es.length + 1) C) (es.length + 1) (es.map Ent.rv ++ [.slice (some ⟨W.heap.size, 0, none⟩) 1 1])) (hg : ((W.alloc (.cells #[.int .i64 (x : Int)] 3)).alloc (.cells #[.slice (some ⟨W.heap.size, 0, none⟩) 1 1] 33)).grownBy W' V4.ownBlock) :
    RM W0 (.slice (some ⟨G, 0, none⟩) (es.length + 1) C) (es ++ [⟨0, some ⟨W.heap.size, 0, none⟩, [x], 1⟩]) V5 F W' := by
  refine rm_put (e := ⟨0, some ⟨W.heap.size, 0, none⟩, [x], 1⟩) (rm_alloc (rm_alloc h _) _) ((one_own W W0.heap.size (x : Int) h.low.size).alloc _) (fun k hk => ?_) ho hg
  have e : W.heap.size = k := by simpa [Ent.rv, Value.ownBlock] using hk
  exact rm_fresh h (by omega)
/-- one list more of no number -/
theorem rm_none {W0 W W' : World} {V4 V5 : Value} {es : List Ent} {F : List Nat} (h : RM W0 V4 es V5 F W) {G C : Nat} (ho : W'.ownsRow W0.heap.size 33 1 (.slice (some ⟨G, 0, none⟩) (es.length + 1) C) (es.length + 1) (es.map Ent.rv ++ [.slice none 0 0])) (hg : (W.alloc (.cells #[.slice none 0 0] 33)).grownBy W' V4.ownBlock) :
    RM W0 (.slice (some ⟨G, 0, none⟩) (es.length + 1) C) (es ++ [⟨0, none, [], 0⟩]) V5 F W' :=
  rm_put (e := ⟨0, none, [], 0⟩) (rm_alloc h _) (ownI_nil _ _) (fun k hk => by cases hk) ho hg
theorem fs_le9 {sizes : List Int} {ns : List Nat} (h : Szs sizes ns) : ∀ i, i ≤ ns.length → fs ns i ≤ 9 * i := by
  intro i
  induction i with
  | zero => intro _; simp [fs]
  | succ i ih =>
    intro hi
    have := ih (by omega)
    have := (h i (by omega)).2.2
    rw [fs_succ (by omega)]
    omega
theorem cut_key3 {S A : Nat → Nat → World → Prop} {G : Prop} (main : (∀ a b c, A a b c → S a b c) → G) (key : ∀ a b c, A a b c → S a b c) : G := main key
theorem fst_at {ns F : List Nat} (h : Fst5 ns F) {j : Nat} (hj : j < ns.length) : ∃ h : j < F.length, F[j] = fs ns j := by
  have hl : F.length = ns.length := by rw [h]; simp
  refine ⟨by omega, ?_⟩
  have : F[j]? = some (fs ns j) := by rw [h, List.getElem?_map, List.getElem?_range hj]; rfl
  rw [List.getElem?_eq_getElem (by omega)] at this
  injection this
theorem own_snoc2 {w1 : World} {B GB C g : Nat} {r : List Nat} (h : w1.ownsRow B 3 1 (.slice (some ⟨GB, 0, none⟩) (r.length + 1) C) (r.length + 1) ((zs r).map iV ++ [.int .i64 (g : Int)])) : OwnI w1 B (.slice (some ⟨GB, 0, none⟩) (r.length + 1) C) (zs r ++ [(g : Int)]) := by
  unfold OwnI
  rw [List.map_append, List.length_append, zs_len]
  exact h
theorem five_at {W0 : World} {g n C4 : Nat} {es : List Ent} {F : List Nat} {f x GB C j g5 i C5 v : Nat} {r : List Nat} {W1 : World} (h : LnkE W0 g n C4 es (.slice (some ⟨g5, 0, none⟩) i C5) F f x GB C r W1) (hj : ∃ h : j < F.length, F[j] = v) : W1.cell? ⟨g5, j, none⟩ = some (.int .i64 (v : Int)) := by
  obtain ⟨hj, e⟩ := hj
  obtain ⟨_, e6, hc⟩ := own5_at h.five hj
  injection e6 with e6
  injection e6 with e6
  subst e6
  rw [← e]
  exact hc
theorem rv_at {es : List Ent} {f : Nat} {VV : Value} {r : List Nat} (h : ∃ h : f < es.length, VV = es[f].rv ∧ r = es[f].r) : (es.map Ent.rv)[f]? = some VV := by
  obtain ⟨h, e, _⟩ := h
  rw [List.getElem?_map, List.getElem?_eq_getElem h, e]
  rfl
theorem rig_ok {ns : List Nat} {G : Gr} (h : Rigs ns G) : Ok G := fun r hr v hv => by
  obtain ⟨u, hu, rfl⟩ := List.getElem_of_mem hr
  have hul : u < fs ns ns.length := by rw [← h.1.len]; exact hu
  obtain ⟨i, k, hi, hk, e⟩ := fs_at ns u hul
  have hn : nx G u = G[u] := by unfold nx; rw [List.getD_eq_getElem?_getD, List.getElem?_eq_getElem hu]; rfl
  rw [← hn, e] at hv
  rw [h.1.len]
  rcases rig_in h hi hk hv with ⟨k', hk', rfl⟩ | ⟨h1, rfl⟩
  · exact fs_lt hi hk'
  · have := fs_lt (l := ns) (i := i + 1) (k := 0) h1 (h.2 _ h1)
    omega
theorem rig_sm {ns : List Nat} {G : Gr} (h : Rigs ns G) : ∀ r ∈ G, r.length ≤ 1024 := fun r hr => by
  obtain ⟨u, hu, rfl⟩ := List.getElem_of_mem hr
  have hul : u < fs ns ns.length := by rw [← h.1.len]; exact hu
  obtain ⟨i, k, hi, hk, e⟩ := fs_at ns u hul
  have hn : nx G u = G[u] := by unfold nx; rw [List.getD_eq_getElem?_getD, List.getElem?_eq_getElem hu]; rfl
  rw [← hn, e, h.1.at' i k hi hk, List.length_append]
  have h1 : (ringAt (fs ns i) (ns.getD i 0) k).length ≤ 1 := by unfold ringAt; split <;> simp
  have h2 : (if k = 0 ∧ i < ns.length - 1 then [fs ns (i + 1)] else []).length ≤ 1 := by split <;> simp
  omega
theorem rem_nat (a n : Nat) (h : 1 ≤ n) : Int.tmod ((a : Int)) (n : Int) = ((a % n : Nat) : Int) := by
  rw [Int.tmod_eq_emod_of_nonneg (by omega)]; omega

set_option maxRecDepth 100000 in
theorem wrap_j (j i : Nat) (h : j < i) (h2 : i ≤ 12) : IntKind.i64.wrap ((j : Int) + 1) = (j : Int) + 1 := by
  have h3 : (j : Int) + 1 ≤ 13 := by omega
  have h0 : 0 ≤ (j : Int) + 1 := by omega
  generalize (j : Int) + 1 = z at *
  rw [IntWalk.i64_left]
  exact IntWalk.wrap64_in z ⟨Int.le_trans (by decide) h0, Int.le_trans h3 (by decide)⟩
set_option maxRecDepth 100000 in
theorem app_intB (w : World) (ty : TypeId) (v : Value) (l : List Int) (B : Nat) (ho : OwnI w B v l) (g : Nat) (z : Int) (hl : w.cell? ⟨g, 0, none⟩ = some (.int .i64 z)) (hb1 : l.length ≤ 100000000) (hB : B ≤ w.heap.size) :
    ∃ GB C w', (Builtin.append_ #[33, 33] ty #[v, .slice (some ⟨g, 0, none⟩) 1 1]).run Try.prog w = .ok (.slice (some ⟨GB, 0, none⟩) (l.length + 1) C) w' ∧ OwnI w' B (.slice (some ⟨GB, 0, none⟩) (l.length + 1) C) (l ++ [z]) ∧ w.grownBy w' v.ownBlock ∧ (v.ownBlock = some GB ∨ GB = w.heap.size) := by
  obtain ⟨i0, hi, hz0, hz1, hz2⟩ := info_parts int_info
  obtain ⟨v', w', h1, h2, h3, _, h5⟩ := run_append_own_at (P := Try.prog) w B 33 ty 3 i0 (.int .i64 0) 1 8 Try.underlying33 hi hz0 hz1 hz2 rfl (by decide) v l.length (l.map iV) ho ⟨g, 0, none⟩ 1 1 [.int .i64 z] rfl (fun j u hj => by
      match j, hj with
      | 0, hj => injection hj with hj; subst hj; exact hl
      | j + 1, hj => simp at hj) (fun u hu => by simp at hu; subst hu; rfl) (by unfold maxLen; omega) (by omega) hB
  obtain ⟨GB, C, rfl, _, _⟩ := World.ownsRow.form h2 (by omega)
  refine ⟨GB, C, w', h1, ?_, h3, ?_⟩
  · unfold OwnI
    rw [List.length_append, List.map_append]
    exact h2
  · rcases h5 with h5 | h5
    · exact .inl h5.symm
    · injection h5 with h5
      exact .inr h5
open Go.Word in
set_option maxRecDepth 100000 in
set_option maxHeartbeats 8000000 in
theorem crow_any (A : Option Addr) (c : Nat) (sizes : List Int) (w : World) (hI : IntsAt w A sizes) : Calls Try.prog 5 #[.slice A sizes.length c] w fun e w' => e = .returned (.bool true) ∧ Below w.heap.size w w' := by
  have HI := Lib.hid hI
  obtain ⟨m, hm⟩ : ∃ m, m = sizes.length := ⟨_, rfl⟩
  have HM := Lib.hid hm
  rw [← hm]
  clear hI hm
  by_cases h0 : m = 0
  · subst h0
    go_enter Try.func5, Try.ntmps5
    go_wp2_with (go_at_call 7; (with_reducible refine (alive_any _).mono ?_); rintro e w1 ⟨rfl, hb⟩; have B1 := Lib.hid hb; clear hb)
    go_ret
    exact ⟨rfl, B1.out⟩
  · by_cases h12 : 12 < m
    · have h0i : ((m : Int) == 0) = false := by simp; omega
      have h12i : (12 : Int) < (m : Int) := by omega
      go_enter Try.func5, Try.ntmps5
      go_wp2_with (go_at_call 7; (with_reducible refine (alive_any _).mono ?_); rintro e w1 ⟨rfl, hb⟩; have B1 := Lib.hid hb; clear hb)
      go_ret
      exact ⟨rfl, B1.out⟩
    · have h0i : ((m : Int) == 0) = false := by simp; omega
      have h12i : ¬ (12 : Int) < (m : Int) := by omega
      go_enter Try.func5, Try.ntmps5
      go_upto_region 4 with (go_at_call 7; (with_reducible refine (alive_any _).mono ?_); rintro e w1 ⟨rfl, hb⟩; have B1 := Lib.hid hb; clear hb)
      have M0 := Lib.hid (l1_0 w1 sizes)
      go_upto_region 8 with (fail)
      go_loopw [4, 5, 6, 7] (fun v4 v5 v6 v7 wr => ∃ (ns : List Nat) (es : List Ent) (F : List Nat), ns.length ≤ m ∧ v7 = .int .i64 (ns.length : Int) ∧ v6 = .int .i64 ((ns.countP (1 < ·) : Nat) : Int) ∧ slen v4 = es.length ∧ L1 w1 sizes ns es F v4 v5 wr) (fun _ _ _ v7 _ => m - (intOf v7).toNat)
      case atStart => exact ⟨[], [], [], Nat.zero_le _, rfl, rfl, rfl, M0.out⟩
      case round =>
        obtain ⟨ns, es, F, hi, rfl, rfl, hsl, hL⟩ := hrel
        have HL := Lib.hid hL
        obtain ⟨i, hii⟩ : ∃ i, i = ns.length := ⟨_, rfl⟩
        have HII := Lib.hid hii
        obtain ⟨rg, hrg⟩ : ∃ rg, rg = ns.countP (1 < ·) := ⟨_, rfl⟩
        have HRG := Lib.hid hrg
        have rgb : rg ≤ i := by rw [hrg, hii]; exact List.countP_le_length
        rw [← hii] at hi ⊢
        rw [← hrg]
        clear hL hii hrg
        obtain ⟨A4, C4, h4⟩ := own_slice HL.out.mem.grp.row
        subst h4
        by_cases hlt : i < m
        · have li : (i : Int) < (m : Int) := by omega
          have him : i < sizes.length := by rw [← HM.out]; exact hlt
          obtain ⟨b, o, eA, hbw, cc⟩ := HI.out i him
          replace cc := (HL.out.mem.low.cell (p := ⟨b, o + i, none⟩) (show b < w1.heap.size from Nat.lt_of_lt_of_le hbw B1.out.size)).trans ((B1.out.cell (p := ⟨b, o + i, none⟩) hbw).trans cc)
          subst eA
          obtain ⟨z, hz⟩ : ∃ z, z = sizes[i] := ⟨_, rfl⟩
          rw [← hz] at cc
          have HZ := Lib.hid hz
          unfold iV at cc
          clear hz
          by_cases hz1 : z < 1
          · go_wp2
            go_ret
            exact ⟨rfl, B1.out.trans (HL.out.mem.low.mono B1.out.size)⟩
          · by_cases hz9 : 9 < z
            · go_wp2
              go_ret
              exact ⟨rfl, B1.out.trans (HL.out.mem.low.mono B1.out.size)⟩
            · obtain ⟨n, rfl⟩ : ∃ n : Nat, z = (n : Int) := ⟨z.toNat, by omega⟩
              have hn1 : 1 ≤ n := by omega
              have hn9 : n ≤ 9 := by omega
              obtain ⟨at', hat'⟩ : ∃ at', at' = es.length := ⟨_, rfl⟩
              have HAT := Lib.hid hat'
              have hatf : at' = fs ns ns.length := by have := HL.out.rig.len; rw [List.length_map, ← hat'] at this; exact this
              have hatb : at' ≤ 108 := by
                have := fs_le9 HL.out.sz ns.length (Nat.le_refl _)
                have := HII.out
                omega
              have HATF := Lib.hid hatf
              clear hatf
              rw [← hat']
              clear hat'
              go_upto_region 14 with (fail)
              have A1 := Lib.hid (rm_alloc HL.out.mem (.cells #[.int .i64 (at' : Int)] 3))
              have LN := Lib.hid (lies_new wr 3 #[.int .i64 (at' : Int)])
              have SZ := Lib.hid (A1.out.low.size)
              have HF := Lib.hid (show (zs F).length ≤ 100000000 by rw [zs_len, HL.out.fst]; simp; rw [← HII.out]; omega)
              clear cc
              go_upto_region 15 with (refine wpList_app_at rfl _ _ rfl w1.heap.size wr.heap.size (at' : Int) u5 (zs F) rfl A1.out.own5 rfl LN.out HF.out SZ.out ?_; intro G5 C5 w2 g1 g2 g3; rw [zs_len] at g1 ⊢; have M2 := Lib.hid (rm_first A1.out g1 g2 (g3.imp id (fun e => by rw [e]; exact Nat.le_refl _))); clear g1 g2 g3)
              clear A1 LN SZ
              go_upto_region 16 with (fail)
              go_loopw [4, 10] (fun v4 v10 wq => ∃ (k : Nat) (es2 : List Ent), k ≤ n ∧ v10 = .int .i64 (k : Int) ∧ slen v4 = es2.length ∧ Hid (es2.map Ent.r = es.map Ent.r ++ (List.range k).map (ringAt at' n)) ∧ RM w1 v4 es2 (.slice (some ⟨G5, 0, none⟩) (F.length + 1) C5) (F ++ [at']) wq) (fun _ v10 _ => n - (intOf v10).toNat)
              case atStart => exact ⟨0, es, Nat.zero_le _, rfl, HAT.out, (by simp : _ = _), by have := M2.out; rw [← HAT.out] at this; exact this⟩
              case round =>
                obtain ⟨k, es2, hk, rfl, hsl2, hrr, hM3⟩ := hrel
                have HR3 := Lib.hid hrr
                have HM3 := Lib.hid hM3
                have hes2 : es2.length = at' + k := by have := congrArg List.length HR3.out.out; simpa [← HAT.out] using this
                have HE2 := Lib.hid hes2
                have EB := Lib.hid (show es2.length ≤ 1000000 by omega)
                obtain ⟨A5, C6, h5⟩ := own_slice HM3.out.grp.row
                subst h5
                clear hrr hM3 hsl2 hes2
                by_cases hkn : k < n
                · have ki : (k : Int) < (n : Int) := by omega
                  by_cases hn : 1 < n
                  · have ni : (1 : Int) < (n : Int) := by omega
                    have hrm : Int.tmod ((k : Int) + 1) (n : Int) = (((k + 1) % n : Nat) : Int) := rem_nat (k + 1) n hn1
                    obtain ⟨y, hy⟩ : ∃ y, y = (k + 1) % n := ⟨_, rfl⟩
                    have hyn : y < n := by rw [hy]; exact Nat.mod_lt _ (by omega)
                    obtain ⟨x, hx⟩ : ∃ x, x = at' + y := ⟨_, rfl⟩
                    have hxi : (at' : Int) + (y : Int) = (x : Int) := by omega
                    rw [← hy] at hrm
                    have HY := Lib.hid hy
                    have HX := Lib.hid hx
                    have nz : ((n : Int) == 0) = false := by simp; omega
                    have RR := Lib.hid (show (es2 ++ [(⟨0, some ⟨wr.heap.size, 0, none⟩, [x], 1⟩ : Ent)]).map Ent.r = es.map Ent.r ++ (List.range (k + 1)).map (ringAt at' n) by
                      rw [List.map_append, HR3.out.out, List.range_succ, List.map_append, List.append_assoc]
                      simp [ringAt, hn, hx, hy])
                    have A1 := Lib.hid (rm_alloc (rm_alloc HM3.out (.cells #[.int .i64 (x : Int)] 3)) (.cells #[.slice (some ⟨wr.heap.size, 0, none⟩) 1 1] 33))
                    have LN := Lib.hid (by have := lies_new (wr.alloc (.cells #[.int .i64 (x : Int)] 3)) 33 #[.slice (some ⟨wr.heap.size, 0, none⟩) 1 1]; rw [World.size_alloc] at this; exact this)
                    clear hy hx
                    go_wp2_with (refine wpList_app_slice rfl _ _ rfl w1.heap.size (wr.heap.size + 1) (.slice (some ⟨wr.heap.size, 0, none⟩) 1 1) (.slice A5 es2.length C6) es2.length (es2.map Ent.rv) rfl A1.out.grp.row rfl LN.out rfl EB.out A1.out.low.size ?_; intro GB GC w3 g1 g2 g3; have M4 := Lib.hid (rm_one HM3.out g1 g2); clear g1 g2 g3)
                    go_roundw
                    case rel => exact ⟨k + 1, _, by omega, by go_num, by simp [slen], RR.out, M4.out⟩
                    case measure => first | (simp [intOf]; done) | (simp [intOf]; omega)
                  · have ni : ¬ (1 : Int) < (n : Int) := by omega
                    have RR := Lib.hid (show (es2 ++ [(⟨0, none, [], 0⟩ : Ent)]).map Ent.r = es.map Ent.r ++ (List.range (k + 1)).map (ringAt at' n) by
                      rw [List.map_append, HR3.out.out, List.range_succ, List.map_append, List.append_assoc]
                      simp [ringAt, hn])
                    have A1 := Lib.hid (rm_alloc HM3.out (.cells #[.slice none 0 0] 33))
                    have LN := Lib.hid (lies_new wr 33 #[.slice none 0 0])
                    go_wp2_with (refine wpList_app_slice rfl _ _ rfl w1.heap.size wr.heap.size (.slice none 0 0) (.slice A5 es2.length C6) es2.length (es2.map Ent.rv) rfl A1.out.grp.row rfl LN.out rfl EB.out A1.out.low.size ?_; intro GB GC w3 g1 g2 g3; have M4 := Lib.hid (rm_none HM3.out g1 g2); clear g1 g2 g3)
                    go_roundw
                    case rel => exact ⟨k + 1, _, by omega, by go_num, by simp [slen], RR.out, M4.out⟩
                    case measure => first | (simp [intOf]; done) | (simp [intOf]; omega)
                · obtain rfl : k = n := by omega
                  have ki : ¬ (k : Int) < (k : Int) := by omega
                  have LL2 := Lib.hid (show L1 w1 sizes (ns ++ [k]) es2 (F ++ [at']) (.slice A5 es2.length C6) (.slice (some ⟨G5, 0, none⟩) (F.length + 1) C5) wr from
                    ⟨szs_snoc HL.out.sz ⟨hn1, hn9⟩ (fun h => by have := HZ.out; simp only [HII.out] at this; exact this.symm), by
                      have := rig_snoc HL.out.rig k
                      rw [List.length_map, ← HAT.out] at this
                      rw [HR3.out.out]; exact this, by rw [HATF.out]; exact fst_snoc HL.out.fst k, HM3.out⟩)
                  have RG2 := Lib.hid (show (ns ++ [k]).countP (1 < ·) = rg + if 1 < k then 1 else 0 by rw [HRG.out]; simp [List.countP_append, List.countP_cons])
                  have LN2 := Lib.hid (show (ns ++ [k]).length = i + 1 by rw [HII.out]; simp)
                  by_cases hk1 : 1 < k
                  · have ni : (1 : Int) < (k : Int) := by omega
                    go_wp2
                    go_roundw
                    case rel => exact ⟨ns ++ [k], es2, F ++ [at'], by rw [LN2.out]; omega, by rw [LN2.out]; go_num, by rw [RG2.out, if_pos hk1]; go_num, rfl, LL2.out⟩
                    case measure => first | (simp [intOf]; done) | (simp [intOf]; omega)
                  · have ni : ¬ (1 : Int) < (k : Int) := by omega
                    go_wp2
                    go_roundw
                    case rel => exact ⟨ns ++ [k], es2, F ++ [at'], by rw [LN2.out]; omega, by rw [LN2.out]; go_num, by rw [RG2.out, if_neg hk1]; rfl, rfl, LL2.out⟩
                    case measure => first | (simp [intOf]; done) | (simp [intOf]; omega)
        · obtain rfl : i = m := by omega
          have li : ¬ (i : Int) < (i : Int) := by omega
          obtain ⟨A5, C5, h5⟩ := own_slice HL.out.mem.own5
          rw [zs_len] at h5
          have hFl : F.length = i := by rw [HL.out.fst]; simp; rw [← HII.out]
          rw [hFl] at h5
          subst h5
          have HPOS := Lib.hid (show ∀ j, j < ns.length → 0 < ns.getD j 0 from fun j hj => by have := (HL.out.sz j hj).2.1; omega)
          obtain ⟨N, hN⟩ : ∃ N, N = es.length := ⟨_, rfl⟩
          have HN := Lib.hid hN
          rw [← hN] at HL ⊢
          have RG0 := Lib.hid HL.out.rig
          have RM0 := Lib.hid HL.out.mem
          have NB := Lib.hid (show N ≤ 108 by
            have := HL.out.rig.len
            rw [List.length_map, ← hN] at this
            have := fs_le9 HL.out.sz ns.length (Nat.le_refl _)
            have := HII.out
            omega)
          have HFL := Lib.hid hFl
          clear hN hsl hFl
          go_upto_region 24 with (fail)
          go_loopw [11] (fun v11 wr => ∃ (j : Nat) (es2 : List Ent), j + 1 ≤ i ∧ v11 = .int .i64 (j : Int) ∧ Hid (es2.length = N) ∧ Rig ns j (es2.map Ent.r) ∧ RM w1 (.slice A4 N C4) es2 (.slice A5 i C5) F wr) (fun v11 _ => i - (intOf v11).toNat)
          case atStart => exact ⟨0, es, by omega, rfl, HN.out.symm, RG0.out, RM0.out⟩
          case round =>
            obtain ⟨j, es2, hj, rfl, hl2, hR3, hM3⟩ := hrel
            have HL2 := Lib.hid hl2.out
            have HR3 := Lib.hid hR3
            have HM3 := Lib.hid hM3
            clear hl2 hR3 hM3
            by_cases hlt2 : j + 1 < i
            · have lj : (j : Int) + 1 < (i : Int) := by omega
              have lj0 : (j : Int) < (i : Int) := by omega
              have hjn : j + 1 < ns.length := by rw [← HII.out]; exact hlt2
              obtain ⟨hjF, eF⟩ := fst_at HL.out.fst (j := j) (by omega)
              obtain ⟨hjF1, eF1⟩ := fst_at HL.out.fst (j := j + 1) hjn
              obtain ⟨f, hf⟩ : ∃ f, f = fs ns j := ⟨_, rfl⟩
              obtain ⟨x, hx⟩ : ∃ x, x = fs ns (j + 1) := ⟨_, rfl⟩
              have hfe : f < es2.length := by
                have := HR3.out.len
                rw [List.length_map] at this
                rw [this, hf]
                have := fs_lt (l := ns) (i := j) (k := 0) (by omega) (HPOS.out j (by omega))
                omega
              have hfN : f < N := by rw [← HL2.out]; exact hfe
              have hfi : (f : Int) < (N : Int) := by omega
              have RGN := Lib.hid (by have := rig_link HR3.out hjn HPOS.out; rw [← hf, ← hx] at this; exact this)
              obtain ⟨g5, e5, q0⟩ := own5_at HM3.out.own5 hjF
              obtain ⟨g5', e5', q1⟩ := own5_at HM3.out.own5 hjF1
              rw [e5] at e5'
              injection e5' with e5'
              injection e5' with e5'
              subst e5'
              rw [eF, ← hf] at q0
              rw [eF1, ← hx] at q1
              obtain ⟨g4, e4, -, q2, q3⟩ := rm_row HM3.out hfe
              obtain ⟨VV, hVV⟩ : ∃ VV, VV = es2[f].rv := ⟨_, rfl⟩
              obtain ⟨r, hr⟩ : ∃ r, r = es2[f].r := ⟨_, rfl⟩
              rw [← hVV] at q2
              subst e5
              subst e4
              have hnr : nx (es2.map Ent.r) f = r := by
                unfold nx
                rw [List.getD_eq_getElem?_getD, List.getElem?_map, List.getElem?_eq_getElem hfe, hr]
                rfl
              have hrl : r.length ≤ 1 := by
                have := HR3.out.at' j 0 (by omega) (HPOS.out j (by omega))
                rw [Nat.add_zero, ← hf, hnr, if_neg (by omega), List.append_nil] at this
                rw [this]
                unfold ringAt
                split <;> simp
              have RGN2 := Lib.hid (fun (GB C : Nat) => show Rig ns (j + 1) ((es2.set f ⟨0, some ⟨GB, 0, none⟩, r ++ [x], C⟩).map Ent.r) by
                have := RGN.out
                rw [hnr] at this
                rw [List.map_set]
                exact this)
              have A1 := rm_alloc HM3.out (.cells #[.int .i64 (x : Int)] 3)
              have OW := Lib.hid (show OwnI ((wr.alloc (.cells #[.int .i64 (x : Int)] 3)).drew) w1.heap.size VV (zs r) by rw [hVV, hr]; exact A1.grp.own _ (List.getElem_mem hfe))
              obtain ⟨_, e6, q0a⟩ := own5_at A1.own5 hjF
              injection e6 with e6
              injection e6 with e6
              subst e6
              obtain ⟨_, e6, q1a⟩ := own5_at A1.own5 hjF1
              injection e6 with e6
              injection e6 with e6
              subst e6
              obtain ⟨_, e6, -, q2a, q3a⟩ := rm_row A1 hfe
              injection e6 with e6
              injection e6 with e6
              subst e6
              rw [eF, ← hf] at q0a
              rw [eF1, ← hx] at q1a
              rw [← hVV] at q2a
              have LN := Lib.hid (lies_new wr 3 #[.int .i64 (x : Int)])
              have SZ := Lib.hid A1.low.size
              have LB := Lib.hid (show (zs r).length ≤ 100000000 by rw [zs_len]; omega)
              have MX := Lib.hid (show (zs r).length + 1 ≤ maxLen by
                have := LB.out
                have : (100000001 : Nat) ≤ maxLen := by decide
                omega)
              obtain ⟨i0, hi0, hz0, hz1, hz2⟩ := info_parts int_info
              have HI0 := Lib.hid hi0
              have HZ0 := Lib.hid hz0
              have HZ1 := Lib.hid hz1
              have HZ2 := Lib.hid hz2
              have HFE := Lib.hid (show ∃ h : f < es2.length, VV = es2[f].rv ∧ r = es2[f].r from ⟨hfe, hVV, hr⟩)
              have HFJ := Lib.hid (show ∃ h : j < F.length, F[j] = f from ⟨hjF, by rw [eF, hf]⟩)
              have HFJ1 := Lib.hid (show ∃ h : j + 1 < F.length, F[j + 1] = x from ⟨hjF1, by rw [eF1, hx]⟩)
              have LK := Lib.hid (fun (GB C : Nat) (w3 : World) (hown : OwnI w3 w1.heap.size (.slice (some ⟨GB, 0, none⟩) (r.length + 1) C) (zs r ++ [(x : Int)])) (hg : (wr.alloc (.cells #[.int .i64 (x : Int)] 3)).grownBy w3 VV.ownBlock) (hat : VV.ownBlock = some GB ∨ wr.heap.size < GB) => show LnkE w1 g4 N C4 es2 (.slice (some ⟨g5, 0, none⟩) i C5) F f x GB C r w3 by
                have := rm_link HM3.out (x := x) (GB := GB) (C := C) (W1 := w3) hfe (o := .cells #[.int .i64 (x : Int)] 3) (by rw [← hVV]; exact hg) (by rw [← hr]; exact hown) (by rw [← hVV]; exact hat)
                rw [← hr] at this
                exact this)
              clear A1 hVV hr hnr hrl hi0 hz0 hz1 hz2 hf hx hfe eF eF1
              generalize wr = W9 at *
              go_upto_region 26 with (fail)
              have hwr : IntKind.i64.wrap ((j : Int) + 1) = (j : Int) + 1 := wrap_j j i (by omega) (by omega)
              have hj0 : ¬ ((j : Int) + 1 < 0) := by omega
              have OWB : OwnI (W9.drew.alloc (.cells #[.int .i64 (x : Int)] 3)) w1.heap.size VV (zs r) := OW.out
              have LBW := lies_new W9.drew 3 #[.int .i64 (x : Int)]
              obtain ⟨GB, C3, Z, hr3, ho3, hg3, hv3⟩ := app_intB (W9.drew.alloc (.cells #[.int .i64 (x : Int)] 3)) 33 VV (zs r) w1.heap.size OWB W9.drew.heap.size (x : Int) (lies_cell LBW 0) LB.out SZ.out
              rw [zs_len] at hr3 ho3
              have hE := LK.out GB C3 Z ho3 ⟨hg3.os, hg3.tape, hg3.output, hg3.size, hg3.block⟩ (hv3.imp id (fun e => by rw [e]; simp))
              have F4 := Lib.hid (fun (l : Array Bool) (hl : l.getD 20 false = false) => Go.Word.stc_all (i := 17) (j := 18) (k := 20) (A := W9.drew) (B := W9.drew.alloc (.cells #[.int .i64 (x : Int)] 3)) (C := Z) (D := Z.setCell ⟨g4, f, none⟩ (.slice (some ⟨GB, 0, none⟩) (r.length + 1) C3)) (l := l) (fun W => W.cell? ⟨g5, j, none⟩ = some (.int .i64 (f : Int))) (q0) (q0a) (five_at hE HFJ.out) (fun h => by rw [hl] at h; cases h))
              have F11 := Lib.hid (fun (l : Array Bool) (hl : l.getD 20 false = false) => Go.Word.stc_all (i := 17) (j := 18) (k := 20) (A := W9.drew) (B := W9.drew.alloc (.cells #[.int .i64 (x : Int)] 3)) (C := Z) (D := Z.setCell ⟨g4, f, none⟩ (.slice (some ⟨GB, 0, none⟩) (r.length + 1) C3)) (l := l) (fun W => W.cell? ⟨g4, f, none⟩ = some VV) (q2) (q2a) (hE.cell VV (rv_at HFE.out)) (fun h => by rw [hl] at h; cases h))
              have F16 := Lib.hid (fun (l : Array Bool) (hl : l.getD 20 false = false) => Go.Word.stc_all (i := 17) (j := 18) (k := 20) (A := W9.drew) (B := W9.drew.alloc (.cells #[.int .i64 (x : Int)] 3)) (C := Z) (D := Z.setCell ⟨g4, f, none⟩ (.slice (some ⟨GB, 0, none⟩) (r.length + 1) C3)) (l := l) (fun W => W.cell? ⟨g5, j + 1, none⟩ = some (.int .i64 (x : Int))) (q1) (q1a) (five_at hE HFJ1.out) (fun h => by rw [hl] at h; cases h))
              have HR := Lib.hid hr3
              have CZ := Lib.hid (hE.cell VV (rv_at HFE.out))
              have FZ := Lib.hid hE.free
              have M6 := Lib.hid hE.rm
              obtain ⟨i1, hi1, hz1, hs1, hb1⟩ := info_parts int_info
              clear OWB LBW hr3 ho3 hg3 hv3 hE q0 q1 q2 q3 q0a q1a q2a q3a HI0 HZ0 HZ1 HZ2 OW LN LK
              refine wp_region_any (by kernel_rfl) ?_
              refine every_at (own := ownAll _) (vals := fun k_ => match k_ with | 0 => (.slice (some ⟨g4, 0, none⟩) N C4) | 1 => (.slice (some ⟨g5, 0, none⟩) i C5) | 2 => (.int .i64 (j : Int)) | 3 => (.pointer (some ⟨g5, j, none⟩)) | 4 => (.int .i64 (f : Int)) | 5 => (.slice (some ⟨g4, 0, none⟩) N C4) | 6 => (.slice (some ⟨g5, 0, none⟩) i C5) | 7 => (.int .i64 (j : Int)) | 8 => (.pointer (some ⟨g5, j, none⟩)) | 9 => (.int .i64 (f : Int)) | 10 => (.pointer (some ⟨g4, f, none⟩)) | 11 => VV | 12 => (.slice (some ⟨g5, 0, none⟩) i C5) | 13 => (.int .i64 (j : Int)) | 14 => (.int .i64 ((j : Int) + 1)) | 15 => (.pointer (some ⟨g5, j + 1, none⟩)) | 16 => (.int .i64 (x : Int)) | 17 => (.slice (some ⟨W9.drew.heap.size, 0, none⟩) 1 1) | 18 => (.slice (some ⟨GB, 0, none⟩) (r.length + 1) C3) | 19 => (.pointer (some ⟨g4, f, none⟩)) | 20 => undef | _ => undef) id (fun l W => W = (Go.Word.Stc 17 18 20 (W9.drew) (W9.drew.alloc (.cells #[.int .i64 (x : Int)] 3)) (Z) (Z.setCell ⟨g4, f, none⟩ (.slice (some ⟨GB, 0, none⟩) (r.length + 1) C3))) l) (acAll_of (by kernel_rfl)) (onAll_of (by kernel_rfl)) (dstAll_of (by kernel_rfl)) ?hop ?hend _ _ _ _ rfl (shut_none _) (of_decide_eq_true (by kernel_rfl)) (tabd_start (fun i => rep_false _ i)) rfl
              case hop =>
                intro x oi a w0 listed hoi hun hsz hcl hdeps ht hI
                have hx : x < 21 := (Array.getElem?_eq_some_iff.1 hoi).1
                have cx : x = 0 ∨ x = 1 ∨ x = 2 ∨ x = 3 ∨ x = 4 ∨ x = 5 ∨ x = 6 ∨ x = 7 ∨ x = 8 ∨ x = 9 ∨ x = 10 ∨ x = 11 ∨ x = 12 ∨ x = 13 ∨ x = 14 ∨ x = 15 ∨ x = 16 ∨ x = 17 ∨ x = 18 ∨ x = 19 ∨ x = 20 := by omega
                have sz : listed.size = 21 := hsz
                have uj : listed.getD 18 false = true → listed.getD 17 false = true := fun h => hcl 18 _ rfl h ⟨17, .data⟩ (by simp) rfl
                have uk : listed.getD 20 false = true → listed.getD 18 false = true := fun h => hcl 20 _ rfl h ⟨18, .data⟩ (by simp) rfl
                have ul4 : listed.getD 20 false = true → listed.getD 4 false = true := fun h => hcl 20 _ rfl h ⟨4, .phase⟩ (by simp) rfl
                have ul9 : listed.getD 20 false = true → listed.getD 9 false = true := fun h => hcl 20 _ rfl h ⟨9, .phase⟩ (by simp) rfl
                have ul11 : listed.getD 20 false = true → listed.getD 11 false = true := fun h => hcl 20 _ rfl h ⟨11, .phase⟩ (by simp) rfl
                have ul16 : listed.getD 20 false = true → listed.getD 16 false = true := fun h => hcl 20 _ rfl h ⟨16, .phase⟩ (by simp) rfl
                clear hcl
                obtain rfl | rfl | rfl | rfl | rfl | rfl | rfl | rfl | rfl | rfl | rfl | rfl | rfl | rfl | rfl | rfl | rfl | rfl | rfl | rfl | rfl := cx
                all_goals obtain rfl := Option.some.inj hoi
                · have e4 : a.eval (.tmp 4) = (.slice (some ⟨g4, 0, none⟩) N C4) := (tabd_old ht (t := 4) (of_decide_eq_true (by kernel_rfl)) (by kernel_rfl)).trans rfl
                  exact .inl ⟨rfl, fun K hk => wp_val (v := (.slice (some ⟨g4, 0, none⟩) N C4)) (by generalize a.eval = ρ at *; unfold execOp; simp only [e4]; go_simp) (hk _ (hI.trans (stc_keep (by decide) (by decide) (by decide)).symm))⟩
                · have e5 : a.eval (.tmp 5) = (.slice (some ⟨g5, 0, none⟩) i C5) := (tabd_old ht (t := 5) (of_decide_eq_true (by kernel_rfl)) (by kernel_rfl)).trans rfl
                  exact .inl ⟨rfl, fun K hk => wp_val (v := (.slice (some ⟨g5, 0, none⟩) i C5)) (by generalize a.eval = ρ at *; unfold execOp; simp only [e5]; go_simp) (hk _ (hI.trans (stc_keep (by decide) (by decide) (by decide)).symm))⟩
                · have e11 : a.eval (.tmp 11) = (.int .i64 ↑j) := (tabd_old ht (t := 11) (of_decide_eq_true (by kernel_rfl)) (by kernel_rfl)).trans rfl
                  exact .inl ⟨rfl, fun K hk => wp_val (v := (.int .i64 (j : Int))) (by generalize a.eval = ρ at *; unfold execOp; simp only [e11]; go_simp) (hk _ (hI.trans (stc_keep (by decide) (by decide) (by decide)).symm))⟩
                · have d1 := hdeps ⟨1, .data⟩ (by simp) rfl
                  have d2 := hdeps ⟨2, .data⟩ (by simp) rfl
                  have e86 : a.eval (.tmp 86) = (.slice (some ⟨g5, 0, none⟩) i C5) := tabd_at ht (t := 86) (of_decide_eq_true (by kernel_rfl)) (by kernel_rfl) d1
                  have e87 : a.eval (.tmp 87) = (.int .i64 (j : Int)) := tabd_at ht (t := 87) (of_decide_eq_true (by kernel_rfl)) (by kernel_rfl) d2
                  exact .inl ⟨rfl, fun K hk => wp_val (v := (.pointer (some ⟨g5, j, none⟩))) (by generalize a.eval = ρ at *; unfold execOp; simp only [e86, e87]; go_simp) (hk _ (hI.trans (stc_keep (by decide) (by decide) (by decide)).symm))⟩
                · have d3 := hdeps ⟨3, .data⟩ (by simp) rfl
                  have e88 : a.eval (.tmp 88) = (.pointer (some ⟨g5, j, none⟩)) := tabd_at ht (t := 88) (of_decide_eq_true (by kernel_rfl)) (by kernel_rfl) d3
                  have h : w0.cell? ⟨g5, j, none⟩ = some ((.int .i64 (f : Int))) := by rw [hI]; exact F4.out listed (no_of ul4 (by simp [hun]))
                  exact .inl ⟨rfl, fun K hk => wp_val (v := (.int .i64 (f : Int))) (by clear hk hI hoi hdeps ht; generalize a.eval = ρ at *; unfold execOp; simp only [e88]; go_simp) (hk _ (hI.trans (stc_keep (by decide) (by decide) (by decide)).symm))⟩
                · have e4 : a.eval (.tmp 4) = (.slice (some ⟨g4, 0, none⟩) N C4) := (tabd_old ht (t := 4) (of_decide_eq_true (by kernel_rfl)) (by kernel_rfl)).trans rfl
                  exact .inl ⟨rfl, fun K hk => wp_val (v := (.slice (some ⟨g4, 0, none⟩) N C4)) (by generalize a.eval = ρ at *; unfold execOp; simp only [e4]; go_simp) (hk _ (hI.trans (stc_keep (by decide) (by decide) (by decide)).symm))⟩
                · have e5 : a.eval (.tmp 5) = (.slice (some ⟨g5, 0, none⟩) i C5) := (tabd_old ht (t := 5) (of_decide_eq_true (by kernel_rfl)) (by kernel_rfl)).trans rfl
                  exact .inl ⟨rfl, fun K hk => wp_val (v := (.slice (some ⟨g5, 0, none⟩) i C5)) (by generalize a.eval = ρ at *; unfold execOp; simp only [e5]; go_simp) (hk _ (hI.trans (stc_keep (by decide) (by decide) (by decide)).symm))⟩
                · have e11 : a.eval (.tmp 11) = (.int .i64 ↑j) := (tabd_old ht (t := 11) (of_decide_eq_true (by kernel_rfl)) (by kernel_rfl)).trans rfl
                  exact .inl ⟨rfl, fun K hk => wp_val (v := (.int .i64 (j : Int))) (by generalize a.eval = ρ at *; unfold execOp; simp only [e11]; go_simp) (hk _ (hI.trans (stc_keep (by decide) (by decide) (by decide)).symm))⟩
                · have d6 := hdeps ⟨6, .data⟩ (by simp) rfl
                  have d7 := hdeps ⟨7, .data⟩ (by simp) rfl
                  have e91 : a.eval (.tmp 91) = (.slice (some ⟨g5, 0, none⟩) i C5) := tabd_at ht (t := 91) (of_decide_eq_true (by kernel_rfl)) (by kernel_rfl) d6
                  have e92 : a.eval (.tmp 92) = (.int .i64 (j : Int)) := tabd_at ht (t := 92) (of_decide_eq_true (by kernel_rfl)) (by kernel_rfl) d7
                  exact .inl ⟨rfl, fun K hk => wp_val (v := (.pointer (some ⟨g5, j, none⟩))) (by generalize a.eval = ρ at *; unfold execOp; simp only [e91, e92]; go_simp) (hk _ (hI.trans (stc_keep (by decide) (by decide) (by decide)).symm))⟩
                · have d8 := hdeps ⟨8, .data⟩ (by simp) rfl
                  have e93 : a.eval (.tmp 93) = (.pointer (some ⟨g5, j, none⟩)) := tabd_at ht (t := 93) (of_decide_eq_true (by kernel_rfl)) (by kernel_rfl) d8
                  have h : w0.cell? ⟨g5, j, none⟩ = some ((.int .i64 (f : Int))) := by rw [hI]; exact F4.out listed (no_of ul9 (by simp [hun]))
                  exact .inl ⟨rfl, fun K hk => wp_val (v := (.int .i64 (f : Int))) (by clear hk hI hoi hdeps ht; generalize a.eval = ρ at *; unfold execOp; simp only [e93]; go_simp) (hk _ (hI.trans (stc_keep (by decide) (by decide) (by decide)).symm))⟩
                · have d5 := hdeps ⟨5, .data⟩ (by simp) rfl
                  have d9 := hdeps ⟨9, .data⟩ (by simp) rfl
                  have e90 : a.eval (.tmp 90) = (.slice (some ⟨g4, 0, none⟩) N C4) := tabd_at ht (t := 90) (of_decide_eq_true (by kernel_rfl)) (by kernel_rfl) d5
                  have e94 : a.eval (.tmp 94) = (.int .i64 (f : Int)) := tabd_at ht (t := 94) (of_decide_eq_true (by kernel_rfl)) (by kernel_rfl) d9
                  exact .inl ⟨rfl, fun K hk => wp_val (v := (.pointer (some ⟨g4, f, none⟩))) (by generalize a.eval = ρ at *; unfold execOp; simp only [e90, e94]; go_simp) (hk _ (hI.trans (stc_keep (by decide) (by decide) (by decide)).symm))⟩
                · have d10 := hdeps ⟨10, .data⟩ (by simp) rfl
                  have e95 : a.eval (.tmp 95) = (.pointer (some ⟨g4, f, none⟩)) := tabd_at ht (t := 95) (of_decide_eq_true (by kernel_rfl)) (by kernel_rfl) d10
                  have h : w0.cell? ⟨g4, f, none⟩ = some (VV) := by rw [hI]; exact F11.out listed (no_of ul11 (by simp [hun]))
                  exact .inl ⟨rfl, fun K hk => wp_val (v := VV) (by clear hk hI hoi hdeps ht; generalize a.eval = ρ at *; unfold execOp; simp only [e95]; go_simp) (hk _ (hI.trans (stc_keep (by decide) (by decide) (by decide)).symm))⟩
                · have e5 : a.eval (.tmp 5) = (.slice (some ⟨g5, 0, none⟩) i C5) := (tabd_old ht (t := 5) (of_decide_eq_true (by kernel_rfl)) (by kernel_rfl)).trans rfl
                  exact .inl ⟨rfl, fun K hk => wp_val (v := (.slice (some ⟨g5, 0, none⟩) i C5)) (by generalize a.eval = ρ at *; unfold execOp; simp only [e5]; go_simp) (hk _ (hI.trans (stc_keep (by decide) (by decide) (by decide)).symm))⟩
                · have e11 : a.eval (.tmp 11) = (.int .i64 ↑j) := (tabd_old ht (t := 11) (of_decide_eq_true (by kernel_rfl)) (by kernel_rfl)).trans rfl
                  exact .inl ⟨rfl, fun K hk => wp_val (v := (.int .i64 (j : Int))) (by generalize a.eval = ρ at *; unfold execOp; simp only [e11]; go_simp) (hk _ (hI.trans (stc_keep (by decide) (by decide) (by decide)).symm))⟩
                · have d13 := hdeps ⟨13, .data⟩ (by simp) rfl
                  have e98 : a.eval (.tmp 98) = (.int .i64 (j : Int)) := tabd_at ht (t := 98) (of_decide_eq_true (by kernel_rfl)) (by kernel_rfl) d13
                  have ec1 : a.eval (.const (Value.int IntKind.i64 1)) = (Value.int IntKind.i64 1) := rfl
                  exact .inl ⟨rfl, fun K hk => wp_val (v := (.int .i64 ((j : Int) + 1))) (by generalize a.eval = ρ at *; unfold execOp; simp only [e98, ec1]; go_simp) (hk _ (hI.trans (stc_keep (by decide) (by decide) (by decide)).symm))⟩
                · have d12 := hdeps ⟨12, .data⟩ (by simp) rfl
                  have d14 := hdeps ⟨14, .data⟩ (by simp) rfl
                  have e97 : a.eval (.tmp 97) = (.slice (some ⟨g5, 0, none⟩) i C5) := tabd_at ht (t := 97) (of_decide_eq_true (by kernel_rfl)) (by kernel_rfl) d12
                  have e99 : a.eval (.tmp 99) = (.int .i64 ((j : Int) + 1)) := tabd_at ht (t := 99) (of_decide_eq_true (by kernel_rfl)) (by kernel_rfl) d14
                  exact .inl ⟨rfl, fun K hk => wp_val (v := (.pointer (some ⟨g5, j + 1, none⟩))) (by generalize a.eval = ρ at *; unfold execOp; simp only [e97, e99]; go_simp) (hk _ (hI.trans (stc_keep (by decide) (by decide) (by decide)).symm))⟩
                · have d15 := hdeps ⟨15, .data⟩ (by simp) rfl
                  have e100 : a.eval (.tmp 100) = (.pointer (some ⟨g5, j + 1, none⟩)) := tabd_at ht (t := 100) (of_decide_eq_true (by kernel_rfl)) (by kernel_rfl) d15
                  have h : w0.cell? ⟨g5, j + 1, none⟩ = some ((.int .i64 (x : Int))) := by rw [hI]; exact F16.out listed (no_of ul16 (by simp [hun]))
                  exact .inl ⟨rfl, fun K hk => wp_val (v := (.int .i64 (x : Int))) (by clear hk hI hoi hdeps ht; generalize a.eval = ρ at *; unfold execOp; simp only [e100]; go_simp) (hk _ (hI.trans (stc_keep (by decide) (by decide) (by decide)).symm))⟩
                · have d16 := hdeps ⟨16, .data⟩ (by simp) rfl
                  have e101 : a.eval (.tmp 101) = (.int .i64 (x : Int)) := tabd_at ht (t := 101) (of_decide_eq_true (by kernel_rfl)) (by kernel_rfl) d16
                  have hst : (Go.Word.Stc 17 18 20 (W9.drew) (W9.drew.alloc (.cells #[.int .i64 (x : Int)] 3)) (Z) (Z.setCell ⟨g4, f, none⟩ (.slice (some ⟨GB, 0, none⟩) (r.length + 1) C3))) listed = W9.drew ∧ (Go.Word.Stc 17 18 20 (W9.drew) (W9.drew.alloc (.cells #[.int .i64 (x : Int)] 3)) (Z) (Z.setCell ⟨g4, f, none⟩ (.slice (some ⟨GB, 0, none⟩) (r.length + 1) C3))) (listed.setIfInBounds 17 true) = W9.drew.alloc (.cells #[.int .i64 (x : Int)] 3) := stc_0 (by decide) (by decide) uj uk (by omega) hun
                  have hw : W9.drew = w0 := (hI.trans hst.1).symm
                  subst hw
                  exact .inl ⟨rfl, fun K hk => Go.wp_buildSlice 33 3 1 _ rfl #[.int .i64 (x : Int)] i1 _ Try.underlying33 hi1 hz1 (by rw [hs1]; decide) (by rw [hs1]; decide) (by rw [hs1]; simp only [List.map_toArray, List.map_cons, List.map_nil, e101]; kernel_rfl) (hk _ hst.2.symm)⟩
                · have d11 := hdeps ⟨11, .data⟩ (by simp) rfl
                  have d17 := hdeps ⟨17, .data⟩ (by simp) rfl
                  have e96 : a.eval (.tmp 96) = VV := tabd_at ht (t := 96) (of_decide_eq_true (by kernel_rfl)) (by kernel_rfl) d11
                  have e102 : a.eval (.tmp 102) = (.slice (some ⟨W9.drew.heap.size, 0, none⟩) 1 1) := tabd_at ht (t := 102) (of_decide_eq_true (by kernel_rfl)) (by kernel_rfl) d17
                  have hst : (Go.Word.Stc 17 18 20 (W9.drew) (W9.drew.alloc (.cells #[.int .i64 (x : Int)] 3)) (Z) (Z.setCell ⟨g4, f, none⟩ (.slice (some ⟨GB, 0, none⟩) (r.length + 1) C3))) listed = W9.drew.alloc (.cells #[.int .i64 (x : Int)] 3) ∧ (Go.Word.Stc 17 18 20 (W9.drew) (W9.drew.alloc (.cells #[.int .i64 (x : Int)] 3)) (Z) (Z.setCell ⟨g4, f, none⟩ (.slice (some ⟨GB, 0, none⟩) (r.length + 1) C3))) (listed.setIfInBounds 18 true) = Z := stc_1 (by decide) (by decide) uk (by omega) hun d17
                  have hw : W9.drew.alloc (.cells #[.int .i64 (x : Int)] 3) = w0 := (hI.trans hst.1).symm
                  subst hw
                  exact .inl ⟨rfl, fun K hk => wp_valT (v := (.slice (some ⟨GB, 0, none⟩) (r.length + 1) C3)) (w' := Z) (app_op _ _ rfl e96 e102 HR.out) (hk _ hst.2.symm)⟩
                · have d0 := hdeps ⟨0, .data⟩ (by simp) rfl
                  have d4 := hdeps ⟨4, .data⟩ (by simp) rfl
                  have e85 : a.eval (.tmp 85) = (.slice (some ⟨g4, 0, none⟩) N C4) := tabd_at ht (t := 85) (of_decide_eq_true (by kernel_rfl)) (by kernel_rfl) d0
                  have e89 : a.eval (.tmp 89) = (.int .i64 (f : Int)) := tabd_at ht (t := 89) (of_decide_eq_true (by kernel_rfl)) (by kernel_rfl) d4
                  exact .inl ⟨rfl, fun K hk => wp_val (v := (.pointer (some ⟨g4, f, none⟩))) (by generalize a.eval = ρ at *; unfold execOp; simp only [e85, e89]; go_simp) (hk _ (hI.trans (stc_keep (by decide) (by decide) (by decide)).symm))⟩
                · have d19 := hdeps ⟨19, .data⟩ (by simp) rfl
                  have d18 := hdeps ⟨18, .data⟩ (by simp) rfl
                  have e103 : a.eval (.tmp 103) = (.slice (some ⟨GB, 0, none⟩) (r.length + 1) C3) := tabd_at ht (t := 103) (of_decide_eq_true (by kernel_rfl)) (by kernel_rfl) d18
                  have e104 : a.eval (.tmp 104) = (.pointer (some ⟨g4, f, none⟩)) := tabd_at ht (t := 104) (of_decide_eq_true (by kernel_rfl)) (by kernel_rfl) d19
                  have hst : (Go.Word.Stc 17 18 20 (W9.drew) (W9.drew.alloc (.cells #[.int .i64 (x : Int)] 3)) (Z) (Z.setCell ⟨g4, f, none⟩ (.slice (some ⟨GB, 0, none⟩) (r.length + 1) C3))) listed = Z ∧ (Go.Word.Stc 17 18 20 (W9.drew) (W9.drew.alloc (.cells #[.int .i64 (x : Int)] 3)) (Z) (Z.setCell ⟨g4, f, none⟩ (.slice (some ⟨GB, 0, none⟩) (r.length + 1) C3))) (listed.setIfInBounds 20 true) = Z.setCell ⟨g4, f, none⟩ (.slice (some ⟨GB, 0, none⟩) (r.length + 1) C3) := stc_2 (by decide) (by omega) hun d18
                  have hw : Z = w0 := (hI.trans hst.1).symm
                  subst hw
                  exact .inl ⟨rfl, fun K hk => wp_skipT (w' := Z.setCell ⟨g4, f, none⟩ (.slice (some ⟨GB, 0, none⟩) (r.length + 1) C3)) (by have h1 := CZ.out; have h2 := FZ.out; clear hk hst hI ht hoi hdeps; generalize a.eval = ρ at *; unfold execOp; simp only [e103, e104]; go_simp) (hk _ hst.2.symm)⟩
              case hend =>
                intro a w0 listed hall ht hI
                rw [tabd_fill ht (fun t i ho => hall i (ownAll_lt ho))]
                have hw : w0 = _ := hI.trans (stc_end (hall 20 (of_decide_eq_true (by kernel_rfl))))
                change (Exit.inBlock _ (Exit.then _ _)) Exit.normal { tmps := ((.slice A i c) :: undef :: u2 :: (.bool true) :: (.slice (some ⟨g4, 0, none⟩) N C4) :: (.slice (some ⟨g5, 0, none⟩) i C5) :: (.int .i64 ↑rg) :: (.int .i64 ↑i) :: u8 :: u9 :: u10 :: (.int .i64 ↑j) :: undef :: undef :: undef :: undef :: undef :: undef :: (.bool true) :: (.bool true) :: (.bool false) :: (.bool false) :: (.slice A i c) :: (.int .i64 ↑i) :: (.bool false) :: (.bool false) :: (.bool false) :: (.slice A i c) :: (.int .i64 ↑i) :: (.bool (decide ((12 : Int) < (i : Int)))) :: (.bool (decide ((12 : Int) < (i : Int)))) :: undef :: (.int .i64 ↑i) :: (.slice A i c) :: (.int .i64 ↑i) :: (.bool false) :: u36 :: u37 :: u38 :: u39 :: u40 :: u41 :: u42 :: u43 :: u44 :: u45 :: u46 :: u47 :: u48 :: u49 :: u50 :: u51 :: u52 :: u53 :: u54 :: u55 :: u56 :: u57 :: u58 :: u59 :: u60 :: u61 :: u62 :: u63 :: u64 :: u65 :: u66 :: u67 :: u68 :: u69 :: u70 :: u71 :: u72 :: u73 :: u74 :: u75 :: u76 :: u77 :: (.int .i64 ↑j) :: (.int .i64 (↑j + 1)) :: (.slice (some ⟨g5, 0, none⟩) i C5) :: (.int .i64 ↑i) :: (.bool true) :: u83 :: u84 :: (.slice (some ⟨g4, 0, none⟩) N C4) :: (.slice (some ⟨g5, 0, none⟩) i C5) :: (.int .i64 (j : Int)) :: (.pointer (some ⟨g5, j, none⟩)) :: (.int .i64 (f : Int)) :: (.slice (some ⟨g4, 0, none⟩) N C4) :: (.slice (some ⟨g5, 0, none⟩) i C5) :: (.int .i64 (j : Int)) :: (.pointer (some ⟨g5, j, none⟩)) :: (.int .i64 (f : Int)) :: (.pointer (some ⟨g4, f, none⟩)) :: VV :: (.slice (some ⟨g5, 0, none⟩) i C5) :: (.int .i64 (j : Int)) :: (.int .i64 ((j : Int) + 1)) :: (.pointer (some ⟨g5, j + 1, none⟩)) :: (.int .i64 (x : Int)) :: (.slice (some ⟨W9.drew.heap.size, 0, none⟩) 1 1) :: (.slice (some ⟨GB, 0, none⟩) (r.length + 1) C3) :: (.pointer (some ⟨g4, f, none⟩)) :: undef :: undef :: undef :: undef :: undef :: undef :: undef :: undef :: undef :: undef :: undef :: undef :: undef :: undef :: undef :: undef :: undef :: undef :: undef :: undef :: undef :: undef :: undef :: undef :: undef :: undef :: undef :: undef :: undef :: undef :: undef :: undef :: undef :: undef :: undef :: undef :: undef :: undef :: undef :: undef :: undef :: undef :: undef :: undef :: undef :: undef :: undef :: undef :: undef :: undef :: undef :: undef :: undef :: undef :: undef :: undef :: undef :: undef :: undef :: undef :: undef :: undef :: undef :: undef :: undef :: []).toArray, defers := [] } w0
                clear hall ht hI
                subst hw
                generalize Z.setCell ⟨g4, f, none⟩ (.slice (some ⟨GB, 0, none⟩) (r.length + 1) C3) = W6 at *
                clear HR F4 F11 F16 CZ FZ
                go_wp2
                go_roundw
                case rel => exact ⟨j + 1, _, by omega, by go_num, (by have := HL2.out; simpa using this : _ = _), RGN2.out GB C3, M6.out⟩
                case measure => first | (simp [intOf]; done) | (simp [intOf]; omega)
            · have hji : j + 1 = i := by omega
              have HJI := Lib.hid hji
              have hjs : ns.length - 1 = j := by have := HII.out; omega
              have RGS := Lib.hid (show Rigs ns (es2.map Ent.r) from ⟨by rw [hjs]; exact HR3.out, HPOS.out⟩)
              clear hjs
              have lj : ¬ (j : Int) + 1 < (i : Int) := by omega
              have K1 := Lib.hid (fun (W : World) (hb : Below wr.heap.size wr W) => comps_any A4 C4 (es2.map Ent.r) (rig_ok RGS.out) (by rw [List.length_map, HL2.out]; have := NB.out; omega) (rig_sm RGS.out) W (lsAt_below (rm_ls HM3.out HL2.out.symm) hb))
              have NPOS := Lib.hid (show 0 < N by
                have := RGS.out.1.len
                rw [List.length_map, HL2.out] at this
                have h1 := fs_mono ns (i := 1) (j := ns.length) (by have := HII.out; omega) (Nat.le_refl _)
                rw [fs_succ (by have := HII.out; omega)] at h1
                have := HPOS.out 0 (by have := HII.out; omega)
                omega)
              have K2 := Lib.hid (fun (W : World) (hb : Below wr.heap.size wr W) => round_any A4 C4 (es2.map Ent.r) (rig_ok RGS.out) (by rw [List.length_map, HL2.out]; exact NPOS.out) (by rw [List.length_map, HL2.out]; have := NB.out; omega) (rig_sm RGS.out) W (lsAt_below (rm_ls HM3.out HL2.out.symm) hb))
              rw [List.length_map, HL2.out] at K1 K2
              have HBL := Lib.hid (B1.out.trans (HM3.out.low.mono B1.out.size))
              have B0 := Lib.hid (Below.refl wr.heap.size wr)
              have SZS := Lib.hid (fun (k : Nat) (hk : k < i) => show ∃ b o, A = some ⟨b, o, none⟩ ∧ wr.cell? ⟨b, o + k, none⟩ = some (.int .i64 (ns.getD k 0 : Int)) by
                obtain ⟨b, o, eA, hbw, cc⟩ := HI.out k (by have := HM.out; omega)
                have h1 := (HL.out.sz k (by have := HII.out; omega)).1 (by have := HM.out; omega)
                rw [h1] at cc
                exact ⟨b, o, eA, (HBL.out.cell (p := ⟨b, o + k, none⟩) hbw).trans cc⟩)
              have FST := Lib.hid (fun (k : Nat) (hk : k < i) => show ∃ g, A5 = some ⟨g, 0, none⟩ ∧ wr.cell? ⟨g, k, none⟩ = some (.int .i64 (fs ns k : Int)) by
                obtain ⟨hk2, e⟩ := fst_at HL.out.fst (j := k) (by have := HII.out; omega)
                obtain ⟨g, e5, hc⟩ := own5_at HM3.out.own5 hk2
                rw [e] at hc
                exact ⟨g, e5, hc⟩)
              have hpos : 0 < ns.length := by have := HII.out; omega
              have HPO := Lib.hid hpos
              clear hji hpos
              go_upto_region 29 with (first
                | (go_at_call 10; (with_reducible refine (K1.out _ B0.out).mono ?_); intro e w2 h; obtain ⟨gl, Cl, rfl, hb, hcl⟩ := rig_out RGS.out HPO.out h; rw [← HII.out] at hcl ⊢; have HCL := Lib.hid hcl; have B2 := Lib.hid (B0.out.trans hb); clear hb h hcl)
                | (go_at_call 11; (with_reducible refine (K2.out _ B2.out).mono ?_); intro e w3 h; obtain ⟨A6, C6, rfl, hb⟩ := rig_rnd RGS.out h; rw [← HRG.out]; have B3 := Lib.hid hb; have B23 := Lib.hid (B2.out.trans (hb.mono B2.out.size)); clear hb h))
              go_upto_region 32 with (go_at_call 15; (with_reducible refine (num_any _ _).mono ?_); rintro e w5 ⟨rfl, rfl⟩)
              generalize w5 = Z at *
              go_loopw [16] (fun v16 wz => ∃ t q : Nat, t ≤ i ∧ v16 = .int .i64 (t : Int) ∧ wz = Z.drewN q) (fun v16 _ => i - (intOf v16).toNat)
              case atStart => exact ⟨0, 0, Nat.zero_le _, rfl, rfl⟩
              case round =>
                obtain ⟨t, q, ht, rfl, rfl⟩ := hrel
                by_cases htl : t < i
                · have ti : (t : Int) < (i : Int) := by omega
                  obtain ⟨b6, o6, c6, p1, p2⟩ := HCL.out t htl
                  obtain ⟨k, hk⟩ : ∃ k, k = i - 1 - t := ⟨_, rfl⟩
                  rw [← hk] at p1 p2
                  have hki : k < i := by omega
                  obtain ⟨b7, o7, e7, p3⟩ := SZS.out k hki
                  obtain ⟨g8, e8, p4⟩ := FST.out k hki
                  have hs := HPOS.out k (by have := HII.out; omega)
                  have hs9 := (HL.out.sz k (by have := HII.out; omega)).2.2
                  generalize ns.getD k 0 = s at *
                  generalize fs ns k = f at *
                  replace p1 := cell_keep B3.out p1
                  replace p2 := cell_keep B3.out p2
                  replace p3 := cell_keep B23.out p3
                  replace p4 := cell_keep B23.out p4
                  have ki : (i : Int) - 1 - (t : Int) = (k : Int) := by omega
                  have kii : (k : Int) < (i : Int) := by omega
                  have si : (0 : Int) < (s : Int) := by omega
                  have HK := Lib.hid hk
                  subst e7
                  subst e8
                  clear hk hs9
                  go_upto_region 35 with (fail)

                  go_quiet (fail)
                  go_wp2
                  go_roundw
                  case rel => exact ⟨t + 1, _, by omega, by go_num, rfl⟩
                  case measure => first | (simp [intOf]; done) | (simp [intOf]; omega)
                · obtain rfl : t = i := by omega
                  have ti : ¬ (t : Int) < (t : Int) := by omega
                  go_wp2
                  go_ret
                  exact ⟨rfl, HBL.out.trans ((below_drewN B23.out q).mono HBL.out.size)⟩
end Go.Proofs.Ytfgpaffcfkbjlaa
