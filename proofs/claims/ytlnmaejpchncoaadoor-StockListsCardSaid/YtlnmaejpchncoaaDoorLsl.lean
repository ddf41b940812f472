/-
What is proved here: the law StockLists's walk.
-/
import Derived.Test.YtlnmaejpchncoaaDoorNqo
import Derived.Test.YtlnmaejpchncoaaDoorKSy
set_option linter.unusedSimpArgs false
set_option linter.unusedVariables false
namespace Go.Proofs.YtlnmaejpchncoaaDoor
open Go.Word Go.RowKit Go.Stk
/-- how much a list is, by the law's own count -/
def tot (ls : List Go.Stk.Bt) : Nat := (ls.map fun x => 1 + x.length).sum
theorem tot_succ (ls : List Go.Stk.Bt) (i : Nat) (h : i < ls.length) : tot (ls.take (i + 1)) = tot (ls.take i) + 1 + ls[i].length := by
  unfold tot
  rw [List.take_succ_eq_append_getElem h, List.map_append, List.sum_append]
  simp
  omega
theorem check_len {ls : List Go.Stk.Bt} (h : checkL (ls.map List.length) = 0) (x : Go.Stk.Bt) (hx : x ∈ ls) : x.length ≤ 8192 := by
  have go : ∀ (ns : List Nat) (a : Nat), chkL a ns = 0 → ∀ n ∈ ns, n ≤ 8192 := by
    intro ns
    induction ns with
    | nil => intro a _ n hn; cases hn
    | cons m r ih =>
      intro a h n hn
      unfold chkL at h
      by_cases hb : 8192 < m ∨ 65536 < a + m
      · rw [if_pos hb] at h; cases h
      · rw [if_neg hb] at h
        rcases List.mem_cons.1 hn with rfl | hn
        · omega
        · exact ih _ h n hn
  unfold checkL at h
  split at h
  · cases h
  · exact go _ 0 h _ (List.mem_map.2 ⟨x, hx, rfl⟩)
theorem kbytes_below {w w' : World} {A : Option Addr} {l : Go.Stk.Bt} (h : K.BytesAt w A l) (hb : Below w.heap.size w w') : K.BytesAt w' A l := K.bytesAt_below h hb
theorem info35 (f : Nat → BitVec 8) : (Tryd.prog.info? 35).map (·.size) = some (yRow f 32).toList.length := by rw [Array.length_toList, yRow_size]; kernel_rfl
theorem tot_mem {ls : List Go.Stk.Bt} {x : Go.Stk.Bt} (h : x ∈ ls) : x.length + 1 ≤ tot ls := by
  unfold tot
  induction ls with
  | nil => cases h
  | cons y r ih =>
    simp only [List.map_cons, List.sum_cons]
    rcases List.mem_cons.1 h with rfl | h
    · omega
    · have := ih h; omega
theorem grown0 {B : Nat} {a w : World} (h : Below B a w) (hB : a.heap.size ≤ B) : a.grownBy w none := ⟨h.os, h.tape, h.output, h.size, fun i hi _ => h.block i (by omega)⟩
theorem tot_len (ls : List Go.Stk.Bt) : ls.length ≤ tot ls := by
  unfold tot
  induction ls with
  | nil => simp
  | cons y r ih => simp only [List.map_cons, List.sum_cons, List.length_cons]; omega
theorem lentF_below {w w' : World} {B : Nat} {A : Option Addr} {C : Nat} {ls : List Go.Stk.Bt} (h : K.LentF w B A C ls) (hb : Below w.heap.size w w') : K.LentF w' B A C ls := by
  obtain ⟨xs, G, h1, h2, h3, h4⟩ := h
  have hg : w.grownBy w' none := ⟨hb.os, hb.tape, hb.output, hb.size, fun i hi _ => hb.block i hi⟩
  have ko : ∀ {B e z v k xs}, w.ownsRow B e z v k xs → w'.ownsRow B e z v k xs := fun {B e z v k xs} h => h.kept hg (by cases v.ownBlock <;> simp)
  have hG : G < w.heap.size := block_lt_of_cell h2
  exact ⟨xs, G, ko h1, (hb.cell (p := ⟨G, 0, none⟩) hG).trans h2, h3, fun i hi => by
    obtain ⟨x, e, hd⟩ := h4 i hi
    exact ⟨x, e, K.lentD_grown hd hg⟩⟩
theorem listC_lent {w : World} {B : Nat} {A : Option Addr} {C : Nat} {ls : List Go.Stk.Bt} (h : K.LentF w B A C ls) : ListC w A ls := fun i hi => by
  obtain ⟨g, rfl, _, hgl, _, _, he⟩ := K.lentF_parts h
  obtain ⟨gi, ci, c1, hci, hby⟩ := he i hi
  refine ⟨g, 0, some ⟨gi, 0, none⟩, ci, rfl, hgl, by rw [Nat.zero_add]; exact c1, fun j hj => ?_, by omega, fun e => by cases e⟩
  obtain ⟨b', o', e, h1, h2⟩ := hby j (by rw [List.length_append]; omega)
  exact ⟨b', o', e, h1, by rw [h2, List.getElem_append_left hj]⟩
set_option maxRecDepth 100000 in
set_option maxHeartbeats 8000000 in
theorem lists_law (LA : Option Addr) (lc : Nat) (ls : List Go.Stk.Bt) (w : World) (hk : Keyed w) (hL : ListC w LA ls) (hn : ls.length ≤ 140737488355328) (hb : ∀ x ∈ ls, x.length ≤ 140737488355328) :
    Calls Tryd.prog 3 #[.slice LA ls.length lc] w fun e w' => e = .returned (.bool true) ∧ Below w.heap.size w w' := by
  have HL := Lib.hid hL
  have HB := Lib.hid hb
  have HK := Lib.hid hk
  obtain ⟨n, hne⟩ : ∃ n, n = ls.length := ⟨_, rfl⟩
  have NE := Lib.hid hne
  rw [← hne] at hn ⊢
  clear hk hL hb hne
  go_enter Tryd.func3, Tryd.ntmps3
  go_wp2_with (go_at_call 4; (with_reducible refine (K.alive_any _).mono ?_); rintro e w1 ⟨rfl, hb⟩; have B1 := Lib.hid hb; clear hb)
  go_loopw [4, 5] (fun v4 v5 wr => wr = w1 ∧ ∃ i t : Nat, i ≤ n ∧ v4 = .int .i64 (t : Int) ∧ v5 = .int .i64 (i : Int) ∧ t = tot (ls.take i) ∧ t ≤ 140737488455328) (fun _ v5 _ => n - (intOf v5).toNat)
  case atStart => exact ⟨rfl, 0, 0, Nat.zero_le _, rfl, rfl, rfl, by omega⟩
  case round =>
    obtain ⟨rfl, i, t, hi, rfl, rfl, ht, htb⟩ := hrel
    have HT := Lib.hid ht
    clear ht
    by_cases hlt : i < n
    · have li : (i : Int) < (n : Int) := by omega
      by_cases htl : t ≤ 90000
      · have tl : (t : Int) ≤ 90000 := by omega
        have lf : i < ls.length := by have := NE.out; omega
        obtain ⟨b, o, DA, dc, eA, hbl, d0, _⟩ := HL.out i lf
        subst eA
        have d1 := (B1.out.cell (p := ⟨b, o + i, none⟩) hbl).trans d0
        have hxl := HB.out ls[i] (List.getElem_mem lf)
        have TS := Lib.hid (tot_succ ls i lf)
        generalize ls[i].length = k at *
        clear d0
        go_wp2
        go_roundw
        case rel => exact ⟨trivial, i + 1, t + 1 + k, by omega, by go_num, by go_num, by rw [TS.out, HT.out], by omega⟩
        case measure => first | (simp [intOf]; done) | (simp [intOf]; omega)
      · have tl : ¬ (t : Int) ≤ 90000 := by omega
        have tg : (90000 : Int) < (t : Int) := by omega
        go_wp2
        go_ret
        exact ⟨rfl, B1.out⟩
    · have li : ¬ (i : Int) < (n : Int) := by omega
      by_cases htl : t ≤ 90000
      · have tg : ¬ (90000 : Int) < (t : Int) := by omega
        have htk : t = tot ls := by rw [HT.out, List.take_of_length_le (by have := NE.out; omega)]
        obtain rfl : i = n := by omega
        have hle : ∀ x ∈ ls, x.length ≤ 90000 := fun x hx => by have := tot_mem hx; omega
        have hnl : ls.length ≤ 90000 := by have := tot_len ls; omega
        have HLE := Lib.hid hle
        have HNL := Lib.hid hnl
        have hl1 := listC_below HL.out B1.out
        have KLn := Lib.hid (K.lent_any LA lc ls wr (listC_at hl1) (by omega) (fun x hx => by have := hle x hx; omega))
        have HL1 := Lib.hid hl1
        have HK1 := Lib.hid (keyed_below HK.out B1.out)
        rw [← NE.out] at KLn
        clear htk hle hnl hl1
        go_upto_region 10 with (go_at_call 5; (with_reducible refine KLn.out.mono ?_); rintro e w2 ⟨⟨A2, C2, rfl, hF⟩, hb⟩; have F2 := Lib.hid hF; have B2 := Lib.hid hb; clear hF hb)
        have L2 := Lib.hid (listC_lent F2.out)
        have l2 := listC_below HL1.out B2.out
        have HL2 := Lib.hid l2
        have HK2 := Lib.hid (keyed_below HK1.out B2.out)
        have CK := Lib.hid (K.check_any A2 C2 (ls.map List.length) w2 (lens_of (listC_at L2.out)) (fun k hk => by obtain ⟨x, hx, rfl⟩ := List.mem_map.1 hk; exact Nat.le_trans (HLE.out x hx) (by decide)))
        rw [List.length_map, ← NE.out] at CK
        have RK := Lib.hid (fun W (h : K.ListAt W LA ls) => K.refcheck_any LA lc (ls.map List.length) W (lens_of h) (fun k hk => by obtain ⟨x, hx, rfl⟩ := List.mem_map.1 hk; exact Nat.le_trans (HLE.out x hx) (by decide)))
        rw [List.length_map, ← NE.out] at RK
        have SY := Lib.hid (fun W (hF : K.LentF W wr.heap.size A2 C2 ls) (hL : K.ListAt W LA ls) => K.stay_any wr.heap.size A2 LA C2 lc ls W hF hL (by have := HNL.out; omega) (fun x hx => by have := HLE.out x hx; omega))
        rw [← NE.out] at SY
        clear l2
        by_cases hc : checkL (ls.map List.length) = 0
        · have SM := Lib.hid (sums_any A2 C2 ls w2 HK2.out L2.out (by have := HNL.out; omega) (fun x hx => by have := HLE.out x hx; omega) hc)
          rw [← NE.out] at SM
          rw [hc] at CK RK
          have HC := Lib.hid hc
          clear hc
          have r0 : ((0 : Int) != 0) = false := by decide
          go_upto_region 20 with (first
            | (go_at_call 6; (with_reducible refine CK.out.mono ?_); rintro e w3 ⟨rfl, rfl⟩)
            | (go_at_call 7; (with_reducible refine SM.out.mono ?_); rintro e w4 ⟨⟨G, rfl, hD⟩, hb⟩; have D4 := Lib.hid hD; have B4 := Lib.hid hb; have H4 := Lib.hid (SY.out w4 (lentF_below F2.out hb) (listC_at (listC_below HL2.out hb))); clear hD hb)
            | (go_at_call 8; (with_reducible refine H4.out.mono ?_); rintro e w5 ⟨rfl, k5, rfl⟩; have R5 := Lib.hid (RK.out (w4.drewN k5) (K.listAt_below (listC_at (listC_below HL2.out B4.out)) (below_drewN (Below.refl _ _) k5))))
            | (go_at_call 9; (with_reducible refine R5.out.mono ?_); rintro e w6 ⟨rfl, rfl⟩)
            | (go_at_call 10; (with_reducible refine (K.num_any _ _).mono ?_); rintro e w7 ⟨rfl, rfl⟩))
          have D5 := Lib.hid (dig_below D4.out (below_drewN (Below.refl _ _) k5))
          have L5 := Lib.hid (listC_below HL2.out (B4.out.trans ((below_drewN (Below.refl _ _) k5).mono B4.out.size)))
          have B5 := Lib.hid (below_drewN ((B1.out.trans (B2.out.mono B1.out.size)).trans (B4.out.mono (Nat.le_trans B1.out.size B2.out.size))) k5)
          clear CK SM H4 R5 SY RK
          generalize w4.drewN k5 = X at *
          go_wp2
          go_loopw [12] (fun v12 wz => ∃ i_ : Nat, i_ ≤ i ∧ v12 = .int .i64 (i_ : Int) ∧ Below X.heap.size X wz) (fun v12 _ => i - (intOf v12).toNat)
          case atStart => exact ⟨0, Nat.zero_le _, rfl, Below.refl _ _⟩
          case round =>
            obtain ⟨j, hj, rfl, hbz⟩ := hrel
            have BZ := Lib.hid hbz
            clear hbz
            by_cases hjl : j < i
            · have lj : (j : Int) < (i : Int) := by omega
              by_cases h12 : j < 12
              · have l12 : (j : Int) < 12 := by omega
                go_upto_region 23 with (fail)
                have lf : j < ls.length := by have := NE.out; omega
                obtain ⟨b, o, DA, dc, eA, hbl, d0, hdy, _, hdn⟩ := L5.out j lf
                subst eA
                have after : ∀ W, Below X.heap.size X W → Hid (W.cell? ⟨b, o + j, none⟩ = some (.slice DA ls[j].length dc)) := fun W hb => Lib.hid ((hb.cell (p := ⟨b, o + j, none⟩) hbl).trans d0)
                have hk2 : ls[j].length ≤ 20000 := by
                  have h3 := check_len HC.out ls[j] (List.getElem_mem lf)
                  omega
                obtain ⟨q, hq⟩ : ∃ q, q = kb ls[j] := ⟨_, rfl⟩
                have QE := Lib.hid hq
                obtain ⟨dk, hke⟩ : ∃ dk, dk = ls[j].length := ⟨_, rfl⟩
                have KE := Lib.hid hke
                rw [← hke] at after hk2
                clear hq hke d0
                have KF : ∀ (l : Array Bool) (p k : Nat) (u : Value) (W W' : World), (True) → W.grownBy W' none → ((fun (l_ : Array Bool) (j_ : Nat) (v_ : Value) (W : World) => match j_ with | 0 => v_ = .int .i64 (j : Int) | 1 => v_ = .bool true | 2 => v_ = .bool true | 3 => v_ = .slice (some ⟨G, 0, none⟩) i i | 4 => v_ = .int .i64 (j : Int) | 5 => v_ = .pointer (some ⟨G, j * 32, none⟩) | 6 => v_ = .agg (yRow (sha key q) 32) | 7 => v_ = .slice (some ⟨b, o, none⟩) i lc | 8 => v_ = .int .i64 (j : Int) | 9 => v_ = .pointer (some ⟨b, o + j, none⟩) | 10 => v_ = .slice DA dk dc | 11 => v_ = .agg (yRow (sha key q) 32) | 12 => v_ = .bool false | 13 => v_ = .bool false | _ => True) : Array Bool → Nat → Value → World → Prop) l k u W → ((fun (l_ : Array Bool) (j_ : Nat) (v_ : Value) (W : World) => match j_ with | 0 => v_ = .int .i64 (j : Int) | 1 => v_ = .bool true | 2 => v_ = .bool true | 3 => v_ = .slice (some ⟨G, 0, none⟩) i i | 4 => v_ = .int .i64 (j : Int) | 5 => v_ = .pointer (some ⟨G, j * 32, none⟩) | 6 => v_ = .agg (yRow (sha key q) 32) | 7 => v_ = .slice (some ⟨b, o, none⟩) i lc | 8 => v_ = .int .i64 (j : Int) | 9 => v_ = .pointer (some ⟨b, o + j, none⟩) | 10 => v_ = .slice DA dk dc | 11 => v_ = .agg (yRow (sha key q) 32) | 12 => v_ = .bool false | 13 => v_ = .bool false | _ => True) : Array Bool → Nat → Value → World → Prop) (l.setIfInBounds p true) k u W' := fun l p k u W W' hp hg h => by
                  have kl : ∀ {g t cs}, Lies W g t cs → Lies W' g t cs := fun h => (hg.block _ (lies_lt h) (by simp)).trans h
                  have ko : ∀ {B e z v k xs}, W.ownsRow B e z v k xs → W'.ownsRow B e z v k xs := fun {B e z v k xs} h => h.kept hg (by cases v.ownBlock <;> simp)
                  match k, h with
                  | 0, h => exact h
                  | 1, h => exact h
                  | 2, h => exact h
                  | 3, h => exact h
                  | 4, h => exact h
                  | 5, h => exact h
                  | 6, h => exact h
                  | 7, h => exact h
                  | 8, h => exact h
                  | 9, h => exact h
                  | 10, h => exact h
                  | 11, h => exact h
                  | 12, h => exact h
                  | 13, h => exact h
                  | _ + 14, _ => exact trivial
                have gr : ∀ W : World, W.grownBy W none := fun W => ⟨rfl, rfl, rfl, Nat.le_refl _, fun _ _ _ => rfl⟩
                have KP := fun (l : Array Bool) (p : Nat) (W : World) (hp : True) => fun (k : Nat) (u : Value) (_ : k ≠ p) (_ : l.getD k false = true) (h : ((fun (l_ : Array Bool) (j_ : Nat) (v_ : Value) (W : World) => match j_ with | 0 => v_ = .int .i64 (j : Int) | 1 => v_ = .bool true | 2 => v_ = .bool true | 3 => v_ = .slice (some ⟨G, 0, none⟩) i i | 4 => v_ = .int .i64 (j : Int) | 5 => v_ = .pointer (some ⟨G, j * 32, none⟩) | 6 => v_ = .agg (yRow (sha key q) 32) | 7 => v_ = .slice (some ⟨b, o, none⟩) i lc | 8 => v_ = .int .i64 (j : Int) | 9 => v_ = .pointer (some ⟨b, o + j, none⟩) | 10 => v_ = .slice DA dk dc | 11 => v_ = .agg (yRow (sha key q) 32) | 12 => v_ = .bool false | 13 => v_ = .bool false | _ => True) : Array Bool → Nat → Value → World → Prop) l k u W) => KF l p k u W W hp (gr W) h
                have IV : ∀ (l : Array Bool) (p : Nat) (W W' : World), True → W.grownBy W' none → ((fun (l_ : Array Bool) (W : World) => Below X.heap.size X W) : Array Bool → World → Prop) l W → ((fun (l_ : Array Bool) (W : World) => Below X.heap.size X W) : Array Bool → World → Prop) (l.setIfInBounds p true) W' := fun l p W W' _ hg h => h.grown hg h.size (fun k e => by cases e)
                refine wp_region_any (by kernel_rfl) ?_
                refine every_factI (own := ownAll _) id ((fun (l_ : Array Bool) (j_ : Nat) (v_ : Value) (W : World) => match j_ with | 0 => v_ = .int .i64 (j : Int) | 1 => v_ = .bool true | 2 => v_ = .bool true | 3 => v_ = .slice (some ⟨G, 0, none⟩) i i | 4 => v_ = .int .i64 (j : Int) | 5 => v_ = .pointer (some ⟨G, j * 32, none⟩) | 6 => v_ = .agg (yRow (sha key q) 32) | 7 => v_ = .slice (some ⟨b, o, none⟩) i lc | 8 => v_ = .int .i64 (j : Int) | 9 => v_ = .pointer (some ⟨b, o + j, none⟩) | 10 => v_ = .slice DA dk dc | 11 => v_ = .agg (yRow (sha key q) 32) | 12 => v_ = .bool false | 13 => v_ = .bool false | _ => True) : Array Bool → Nat → Value → World → Prop) ((fun (l_ : Array Bool) (W : World) => Below X.heap.size X W) : Array Bool → World → Prop) (acAll_of (by kernel_rfl)) (onAll_of (by kernel_rfl)) (dstAll_of (by kernel_rfl)) ?hop ?hend _ _ _ _ (fun _ => undef) rfl (shut_none _) (of_decide_eq_true (by kernel_rfl)) (tabd_start (fun i => rep_false _ i)) (fun k hk => by rw [rep_false] at hk; cases hk) (BZ.out).drew
                case hop =>
                  intro j oi a w0 listed vals hoi hs hcl hun hdeps ht hF hI
                  have hj : j < 14 := (Array.getElem?_eq_some_iff.1 hoi).1
                  have cj : j = 0 ∨ j = 1 ∨ j = 2 ∨ j = 3 ∨ j = 4 ∨ j = 5 ∨ j = 6 ∨ j = 7 ∨ j = 8 ∨ j = 9 ∨ j = 10 ∨ j = 11 ∨ j = 12 ∨ j = 13 := by omega
                  obtain rfl | rfl | rfl | rfl | rfl | rfl | rfl | rfl | rfl | rfl | rfl | rfl | rfl | rfl := cj
                  all_goals obtain rfl := Option.some.inj hoi
                  · have e12 : a.eval (.tmp 12) = .int .i64 (j : Int) := (tabd_old ht (t := 12) (of_decide_eq_true (by kernel_rfl)) (by kernel_rfl)).trans rfl
                    exact .inl ⟨rfl, fun K hk => wp_val (v := .int .i64 (j : Int)) (by clear hk hI hoi hdeps ht hF hcl hs KF KP IV; generalize a.eval = ρ at *; unfold execOp; simp only [e12]; go_simp) (hk _ _ rfl (KP listed 0 w0 trivial) (IV listed 0 w0 w0 trivial (gr w0) hI))⟩
                  · have d0 := hdeps ⟨0, .data⟩ (by simp) rfl
                    have e83 : a.eval (.tmp 83) = .int .i64 (j : Int) := (tabd_at ht (t := 83) (of_decide_eq_true (by kernel_rfl)) (by kernel_rfl) d0).trans (hF 0 d0)
                    have ec1 : a.eval (.const (Value.int IntKind.i64 12)) = (Value.int IntKind.i64 12) := rfl
                    exact .inl ⟨rfl, fun K hk => wp_val (v := .bool true) (by clear hk hI hoi hdeps ht hF hcl hs KF KP IV; generalize a.eval = ρ at *; unfold execOp; simp only [e83, ec1]; go_simp) (hk _ _ rfl (KP listed 1 w0 trivial) (IV listed 1 w0 w0 trivial (gr w0) hI))⟩
                  · have d1 := hdeps ⟨1, .data⟩ (by simp) rfl
                    have e84 : a.eval (.tmp 84) = .bool true := (tabd_at ht (t := 84) (of_decide_eq_true (by kernel_rfl)) (by kernel_rfl) d1).trans (hF 1 d1)
                    exact .inl ⟨rfl, fun K hk => wp_val (v := .bool true) (by clear hk hI hoi hdeps ht hF hcl hs KF KP IV; generalize a.eval = ρ at *; unfold execOp; simp only [e84]; go_simp) (hk _ _ rfl (KP listed 2 w0 trivial) (IV listed 2 w0 w0 trivial (gr w0) hI))⟩
                  · have d2 := hdeps ⟨2, .guard⟩ (by simp) rfl
                    have e8 : a.eval (.tmp 8) = .slice (some ⟨G, 0, none⟩) i i := (tabd_old ht (t := 8) (of_decide_eq_true (by kernel_rfl)) (by kernel_rfl)).trans rfl
                    exact .inl ⟨(tabd_wanted ht rfl rfl (of_decide_eq_true (by kernel_rfl)) (by kernel_rfl) d2 (hF 2 d2)), fun K hk => wp_val (v := .slice (some ⟨G, 0, none⟩) i i) (by clear hk hI hoi hdeps ht hF hcl hs KF KP IV; generalize a.eval = ρ at *; unfold execOp; simp only [e8]; go_simp) (hk _ _ rfl (KP listed 3 w0 trivial) (IV listed 3 w0 w0 trivial (gr w0) hI))⟩
                  · have d2 := hdeps ⟨2, .guard⟩ (by simp) rfl
                    have e12 : a.eval (.tmp 12) = .int .i64 (j : Int) := (tabd_old ht (t := 12) (of_decide_eq_true (by kernel_rfl)) (by kernel_rfl)).trans rfl
                    exact .inl ⟨(tabd_wanted ht rfl rfl (of_decide_eq_true (by kernel_rfl)) (by kernel_rfl) d2 (hF 2 d2)), fun K hk => wp_val (v := .int .i64 (j : Int)) (by clear hk hI hoi hdeps ht hF hcl hs KF KP IV; generalize a.eval = ρ at *; unfold execOp; simp only [e12]; go_simp) (hk _ _ rfl (KP listed 4 w0 trivial) (IV listed 4 w0 w0 trivial (gr w0) hI))⟩
                  · have d3 := hdeps ⟨3, .data⟩ (by simp) rfl
                    have d4 := hdeps ⟨4, .data⟩ (by simp) rfl
                    have d2 := hdeps ⟨2, .guard⟩ (by simp) rfl
                    have e86 : a.eval (.tmp 86) = .slice (some ⟨G, 0, none⟩) i i := (tabd_at ht (t := 86) (of_decide_eq_true (by kernel_rfl)) (by kernel_rfl) d3).trans (hF 3 d3)
                    have e87 : a.eval (.tmp 87) = .int .i64 (j : Int) := (tabd_at ht (t := 87) (of_decide_eq_true (by kernel_rfl)) (by kernel_rfl) d4).trans (hF 4 d4)
                    exact .inl ⟨(tabd_wanted ht rfl rfl (of_decide_eq_true (by kernel_rfl)) (by kernel_rfl) d2 (hF 2 d2)), fun K hk => wp_val (v := .pointer (some ⟨G, j * 32, none⟩)) (by clear hk hI hoi hdeps ht hF hcl hs KF KP IV; generalize a.eval = ρ at *; unfold execOp; simp only [e86, e87]; go_simp) (hk _ _ rfl (KP listed 5 w0 trivial) (IV listed 5 w0 w0 trivial (gr w0) hI))⟩
                  · have d5 := hdeps ⟨5, .data⟩ (by simp) rfl
                    have d2 := hdeps ⟨2, .guard⟩ (by simp) rfl
                    have e88 : a.eval (.tmp 88) = .pointer (some ⟨G, j * 32, none⟩) := (tabd_at ht (t := 88) (of_decide_eq_true (by kernel_rfl)) (by kernel_rfl) d5).trans (hF 5 d5)
                    refine .inl ⟨(tabd_wanted ht rfl rfl (of_decide_eq_true (by kernel_rfl)) (by kernel_rfl) d2 (hF 2 d2)), fun K hk => ?_⟩
                    have hc := (dig_below D5.out hI).2.2 j lf hjl
                    rw [← QE.out] at hc
                    exact wp_val (v := .agg (yRow (sha key q) 32)) (load_op 35 _ rfl G (j * 32) e88 _ _ hc Tryd.underlying35 rfl (info35 _)) (hk _ _ rfl (KP listed 6 w0 trivial) (IV listed 6 w0 w0 trivial (gr w0) hI))
                  · have d2 := hdeps ⟨2, .guard⟩ (by simp) rfl
                    have e0 : a.eval (.tmp 0) = .slice (some ⟨b, o, none⟩) i lc := (tabd_old ht (t := 0) (of_decide_eq_true (by kernel_rfl)) (by kernel_rfl)).trans rfl
                    exact .inl ⟨(tabd_wanted ht rfl rfl (of_decide_eq_true (by kernel_rfl)) (by kernel_rfl) d2 (hF 2 d2)), fun K hk => wp_val (v := .slice (some ⟨b, o, none⟩) i lc) (by clear hk hI hoi hdeps ht hF hcl hs KF KP IV; generalize a.eval = ρ at *; unfold execOp; simp only [e0]; go_simp) (hk _ _ rfl (KP listed 7 w0 trivial) (IV listed 7 w0 w0 trivial (gr w0) hI))⟩
                  · have d2 := hdeps ⟨2, .guard⟩ (by simp) rfl
                    have e12 : a.eval (.tmp 12) = .int .i64 (j : Int) := (tabd_old ht (t := 12) (of_decide_eq_true (by kernel_rfl)) (by kernel_rfl)).trans rfl
                    exact .inl ⟨(tabd_wanted ht rfl rfl (of_decide_eq_true (by kernel_rfl)) (by kernel_rfl) d2 (hF 2 d2)), fun K hk => wp_val (v := .int .i64 (j : Int)) (by clear hk hI hoi hdeps ht hF hcl hs KF KP IV; generalize a.eval = ρ at *; unfold execOp; simp only [e12]; go_simp) (hk _ _ rfl (KP listed 8 w0 trivial) (IV listed 8 w0 w0 trivial (gr w0) hI))⟩
                  · have d7 := hdeps ⟨7, .data⟩ (by simp) rfl
                    have d8 := hdeps ⟨8, .data⟩ (by simp) rfl
                    have d2 := hdeps ⟨2, .guard⟩ (by simp) rfl
                    have e90 : a.eval (.tmp 90) = .slice (some ⟨b, o, none⟩) i lc := (tabd_at ht (t := 90) (of_decide_eq_true (by kernel_rfl)) (by kernel_rfl) d7).trans (hF 7 d7)
                    have e91 : a.eval (.tmp 91) = .int .i64 (j : Int) := (tabd_at ht (t := 91) (of_decide_eq_true (by kernel_rfl)) (by kernel_rfl) d8).trans (hF 8 d8)
                    exact .inl ⟨(tabd_wanted ht rfl rfl (of_decide_eq_true (by kernel_rfl)) (by kernel_rfl) d2 (hF 2 d2)), fun K hk => wp_val (v := .pointer (some ⟨b, o + j, none⟩)) (by clear hk hI hoi hdeps ht hF hcl hs KF KP IV; generalize a.eval = ρ at *; unfold execOp; simp only [e90, e91]; go_simp) (hk _ _ rfl (KP listed 9 w0 trivial) (IV listed 9 w0 w0 trivial (gr w0) hI))⟩
                  · have d9 := hdeps ⟨9, .data⟩ (by simp) rfl
                    have d2 := hdeps ⟨2, .guard⟩ (by simp) rfl
                    have e92 : a.eval (.tmp 92) = .pointer (some ⟨b, o + j, none⟩) := (tabd_at ht (t := 92) (of_decide_eq_true (by kernel_rfl)) (by kernel_rfl) d9).trans (hF 9 d9)
                    exact .inl ⟨(tabd_wanted ht rfl rfl (of_decide_eq_true (by kernel_rfl)) (by kernel_rfl) d2 (hF 2 d2)), fun K hk => wp_val (v := .slice DA dk dc) (by have hc := (after w0 hI).out; clear hk hI hoi hdeps ht hF hcl hs KF KP IV; generalize a.eval = ρ at *; unfold execOp; simp only [e92]; go_simp) (hk _ _ rfl (KP listed 10 w0 trivial) (IV listed 10 w0 w0 trivial (gr w0) hI))⟩
                  · have d10 := hdeps ⟨10, .data⟩ (by simp) rfl
                    have d2 := hdeps ⟨2, .chain⟩ (by simp) rfl
                    have e93 : a.eval (.tmp 93) = .slice DA dk dc := (tabd_at ht (t := 93) (of_decide_eq_true (by kernel_rfl)) (by kernel_rfl) d10).trans (hF 10 d10)
                    have ef11 : a.eval (.func 11) = .func (.func 11) #[] #[] := rfl
                    refine .inl ⟨(tabd_wanted ht rfl rfl (of_decide_eq_true (by kernel_rfl)) (by kernel_rfl) d2 (hF 2 d2)), fun K hk => ?_⟩
                    have hR := refsum_any DA dk dc q w0 (by rw [QE.out, kb_len]; exact KE.out.symm) hdn (by rw [QE.out]; exact byt_of (kbytes_below hdy hI)) hk2
                    refine wp_enter (by clear hk hI hoi hdeps ht hF hcl hs KF KP IV hR; generalize a.eval = ρ at *; unfold execOp; simp only [e93, ef11]; go_simp) hR ?_
                    rintro e w2 ⟨rfl, hb⟩
                    exact ⟨_, rfl, hk _ w2 rfl (fun k u _ _ h => KF listed 11 k u w0 w2 trivial (grown0 hb (Nat.le_refl _)) h) (hI.trans (hb.mono hI.size))⟩
                  · have d6 := hdeps ⟨6, .data⟩ (by simp) rfl
                    have d11 := hdeps ⟨11, .data⟩ (by simp) rfl
                    have d2 := hdeps ⟨2, .guard⟩ (by simp) rfl
                    have e89 : a.eval (.tmp 89) = .agg (yRow (sha key q) 32) := (tabd_at ht (t := 89) (of_decide_eq_true (by kernel_rfl)) (by kernel_rfl) d6).trans (hF 6 d6)
                    have e94 : a.eval (.tmp 94) = .agg (yRow (sha key q) 32) := (tabd_at ht (t := 94) (of_decide_eq_true (by kernel_rfl)) (by kernel_rfl) d11).trans (hF 11 d11)
                    refine .inl ⟨(tabd_wanted ht rfl rfl (of_decide_eq_true (by kernel_rfl)) (by kernel_rfl) d2 (hF 2 d2)), fun K hk => ?_⟩
                    exact wp_val (v := .bool false) (neq_op _ _ rfl e89 e94) (hk _ _ rfl (KP listed 12 w0 trivial) (IV listed 12 w0 w0 trivial (gr w0) hI))
                  · have d2 := hdeps ⟨2, .data⟩ (by simp) rfl
                    have d12 := hdeps ⟨12, .data⟩ (by simp) rfl
                    have e85 : a.eval (.tmp 85) = .bool true := (tabd_at ht (t := 85) (of_decide_eq_true (by kernel_rfl)) (by kernel_rfl) d2).trans (hF 2 d2)
                    have e95 : a.eval (.tmp 95) = .bool false := (tabd_at ht (t := 95) (of_decide_eq_true (by kernel_rfl)) (by kernel_rfl) d12).trans (hF 12 d12)
                    have ec2 : a.eval (.const (Value.bool false)) = (Value.bool false) := rfl
                    exact .inl ⟨rfl, fun K hk => wp_val (v := .bool false) (by clear hk hI hoi hdeps ht hF hcl hs KF KP IV; generalize a.eval = ρ at *; unfold execOp; simp only [e85, e95, ec2]; go_simp) (hk _ _ rfl (KP listed 13 w0 trivial) (IV listed 13 w0 w0 trivial (gr w0) hI))⟩
                case hend =>
                  intro a w0 listed vals hall ht hF hI
                  rw [tabd_fill ht (fun t i ho => hall i (ownAll_lt ho))]
                  have g0 : vals 0 = .int .i64 (j : Int) := hF 0 (by decide)
                  have g1 : vals 1 = .bool true := hF 1 (by decide)
                  have g2 : vals 2 = .bool true := hF 2 (by decide)
                  have g3 : vals 3 = .slice (some ⟨G, 0, none⟩) i i := hF 3 (by decide)
                  have g4 : vals 4 = .int .i64 (j : Int) := hF 4 (by decide)
                  have g5 : vals 5 = .pointer (some ⟨G, j * 32, none⟩) := hF 5 (by decide)
                  have g6 : vals 6 = .agg (yRow (sha key q) 32) := hF 6 (by decide)
                  have g7 : vals 7 = .slice (some ⟨b, o, none⟩) i lc := hF 7 (by decide)
                  have g8 : vals 8 = .int .i64 (j : Int) := hF 8 (by decide)
                  have g9 : vals 9 = .pointer (some ⟨b, o + j, none⟩) := hF 9 (by decide)
                  have g10 : vals 10 = .slice DA dk dc := hF 10 (by decide)
                  have g11 : vals 11 = .agg (yRow (sha key q) 32) := hF 11 (by decide)
                  have g12 : vals 12 = .bool false := hF 12 (by decide)
                  have g13 : vals 13 = .bool false := hF 13 (by decide)
                  change Exit.then _ _ Exit.normal { tmps := (.slice (some ⟨b, o, none⟩) i lc :: undef :: u2 :: .bool true :: .int .i64 (t : Int) :: .int .i64 (i : Int) :: .slice A2 i C2 :: .int .i64 0 :: .slice (some ⟨G, 0, none⟩) i i :: .int .i64 0 :: .bool true :: .int .i64 0 :: .int .i64 (j : Int) :: .bool true :: .int .i64 (i : Int) :: .slice (some ⟨b, o, none⟩) i lc :: .int .i64 (i : Int) :: .bool false :: .bool false :: undef :: undef :: .bool false :: u22 :: u23 :: u24 :: u25 :: u26 :: u27 :: u28 :: u29 :: u30 :: u31 :: .bool true :: .bool false :: .bool false :: .int .i64 (t : Int) :: .bool false :: .bool false :: undef :: .slice (some ⟨b, o, none⟩) i lc :: .slice A2 i C2 :: .slice A2 i C2 :: .int .i64 0 :: .tuple #[.slice (some ⟨G, 0, none⟩) i i, .int .i64 0] :: .slice A2 i C2 :: .tuple #[.slice (some ⟨G, 0, none⟩) i i, .int .i64 0] :: .slice (some ⟨G, 0, none⟩) i i :: .int .i64 0 :: .slice A2 i C2 :: .slice (some ⟨b, o, none⟩) i lc :: .bool true :: .slice (some ⟨b, o, none⟩) i lc :: .int .i64 0 :: .bool true :: .bool false :: .bool false :: .int .i64 0 :: .int .i64 0 :: .int .i64 0 :: .bool false :: .bool false :: .bool false :: .int .i64 0 :: .int .i64 0 :: .int .i64 0 :: .bool false :: .bool false :: .int .i64 0 :: .bool false :: undef :: undef :: undef :: .slice (some ⟨G, 0, none⟩) i i :: .int .i64 (i : Int) :: .slice (some ⟨b, o, none⟩) i lc :: .int .i64 (i : Int) :: .bool false :: .int .i64 (j : Int) :: .slice (some ⟨G, 0, none⟩) i i :: .int .i64 (i : Int) :: .bool true :: u81 :: u82 :: vals 0 :: vals 1 :: vals 2 :: vals 3 :: vals 4 :: vals 5 :: vals 6 :: vals 7 :: vals 8 :: vals 9 :: vals 10 :: vals 11 :: vals 12 :: vals 13 :: []).toArray, defers := [] } w0
                  simp only [g0, g1, g2, g3, g4, g5, g6, g7, g8, g9, g10, g11, g12, g13]
                  clear ht hF KF KP IV
                  go_wp2
                  go_roundw
                  case rel => exact ⟨j + 1, by omega, by go_num, hI⟩
                  case measure => first | (simp [intOf]; done) | (simp [intOf]; omega)
              · have l12 : ¬ (j : Int) < 12 := by omega
                go_upto_region 23 with (fail)
                go_quiet (fail)
                go_wp2
                go_roundw
                case rel => exact ⟨j + 1, by omega, by go_num, below_drewN BZ.out _⟩
                case measure => first | (simp [intOf]; done) | (simp [intOf]; omega)
            · have lj : ¬ (j : Int) < (i : Int) := by omega
              go_wp2
              go_ret
              exact ⟨rfl, B5.out.trans (BZ.out.mono B5.out.size)⟩
        · have SM := Lib.hid (sums_no A2 C2 ls w2 (listC_at L2.out) (fun x hx => by have := HLE.out x hx; omega) hc)
          rw [← NE.out] at SM
          have hz : (checkL (ls.map List.length) != 0) = true := by simpa using hc
          generalize checkL (ls.map List.length) = z at *
          have zz : (z != z) = false := by simp
          clear hc
          go_wp2_with (first
            | (go_at_call 6; (with_reducible refine CK.out.mono ?_); rintro e w3 ⟨rfl, rfl⟩)
            | (go_at_call 7; (with_reducible refine SM.out.mono ?_); rintro e w4 ⟨rfl, hb⟩; have B4 := Lib.hid hb; have H4 := Lib.hid (SY.out w4 (lentF_below F2.out hb) (listC_at (listC_below HL2.out hb))); clear hb)
            | (go_at_call 8; (with_reducible refine H4.out.mono ?_); rintro e w5 ⟨rfl, k5, rfl⟩; have R5 := Lib.hid (RK.out (w4.drewN k5) (K.listAt_below (listC_at (listC_below HL2.out B4.out)) (below_drewN (Below.refl _ _) k5))))
            | (go_at_call 9; (with_reducible refine R5.out.mono ?_); rintro e w6 ⟨rfl, rfl⟩)
            | (go_at_call 10; (with_reducible refine (K.num_any _ _).mono ?_); rintro e w7 ⟨rfl, rfl⟩))
          go_ret
          exact ⟨rfl, below_drewN ((B1.out.trans (B2.out.mono B1.out.size)).trans (B4.out.mono (Nat.le_trans B1.out.size B2.out.size))) k5⟩
      · have tg : (90000 : Int) < (t : Int) := by omega
        go_wp2
        go_ret
        exact ⟨rfl, B1.out⟩
end Go.Proofs.YtlnmaejpchncoaaDoor
