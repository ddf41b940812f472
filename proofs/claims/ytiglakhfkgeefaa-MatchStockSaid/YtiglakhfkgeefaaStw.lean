/-
What is proved here: the law that contents behind the stock's own turn nothing, by a contract.
-/
import Derived.Test.YtiglakhfkgeefaaMok
import Derived.Test.YtiglakhfkgeefaaLsa
import Derived.StillTailTactics
set_option linter.unusedSimpArgs false
set_option linter.unusedVariables false
namespace Go.Proofs.Ytiglakhfkgeefaa
open Go.Pth Go.Tre Go.RowKit Go.Word Go.Shelf Go.Mat
/-- how long the first i are in all -/
def sumTo (ls : List Bt) (i : Nat) : Nat := ((ls.take i).map List.length).sum
theorem sumTo_zero (ls : List Bt) : sumTo ls 0 = 0 := by simp [sumTo]
theorem sumTo_succ (ls : List Bt) (i : Nat) (h : i < ls.length) : sumTo ls (i + 1) = sumTo ls i + ls[i].length := by
  unfold sumTo
  rw [List.take_succ_eq_append_getElem h, List.map_append, List.sum_append]
  simp only [List.map_cons, List.map_nil, List.sum_cons, List.sum_nil, Nat.add_zero]
theorem sumTo_all (ls : List Bt) : sumTo ls ls.length = (ls.map List.length).sum := by simp [sumTo]
set_option maxRecDepth 100000 in
set_option maxHeartbeats 16000000 in
theorem stock_law (NA FA MA GA LA KA : Option Addr) (nc fc mc gc lc kc : Nat) (ns ms : List Nd) (fs gs : List Fl) (ls more : List Bt) (w : World) (hN : NodesAt w NA ns) (hF : FilesAt w FA fs) (hM : NodesAt w MA ms) (hG : FilesAt w GA gs) (hL : ListQ w LA ls) (hK : ListQ w KA more)
    (h1 : Fits ns fs) (h2 : Fits ms gs) (h3 : FitsL ls) :
    Calls Try.prog 8 #[.agg #[.slice NA ns.length nc, .slice FA fs.length fc, .slice MA ms.length mc, .slice GA gs.length gc, .slice LA ls.length lc], .slice KA more.length kc] w fun e w' => e = .returned (.bool true) ∧ Below w.heap.size w w' := by
  have KM := Lib.hid (fun (W : World) (h : Below w.heap.size w W) => much_any NA FA MA GA LA nc fc mc gc lc ns ms fs gs ls W (nodesAt_below hN h) (filesAt_below hF h) (nodesAt_below hM h) (filesAt_below hG h) (listQ_below hL h) h1 h2 h3)
  have KO := Lib.hid (fun (W : World) (h : Below w.heap.size w W) (hs : Small ns fs) (ht : Small ms gs) (hl : SmallL ls) => match_ok NA FA MA GA LA nc fc mc gc lc ns ms fs gs ls W (nodesAt_below hN h) (filesAt_below hF h) (nodesAt_below hM h) (filesAt_below hG h) (listQ_below hL h) hs ht (by have := hl.1; omega) (fun x hx => by have := hl.2 x hx; omega))
  have KX := Lib.hid (fun (W : World) (h : Below w.heap.size w W) (hs : Small ns fs) (ht : Small ms gs) (hl : SmallL ls) => match_no NA FA MA GA LA nc fc mc gc lc ns ms fs gs ls W (nodesAt_below hN h) (filesAt_below hF h) (nodesAt_below hM h) (filesAt_below hG h) (listQ_below hL h) hs ht (by have := hl.1; omega) (fun x hx => by have := hl.2 x hx; omega))
  have KT := Lib.hid (fun (W : World) (h : Below w.heap.size w W) (hs : Small ns fs) (ht : Small ms gs) (C : Option Addr) (cc : Nat) (hC : ListQ W C (ls ++ more)) (h5 : (ls ++ more).length ≤ 70000) (h6 : ∀ x ∈ ls ++ more, x.length ≤ 100000) => match_ok NA FA MA GA C nc fc mc gc cc ns ms fs gs (ls ++ more) W (nodesAt_below hN h) (filesAt_below hF h) (nodesAt_below hM h) (filesAt_below hG h) hC hs ht h5 h6)
  have KL := Lib.hid (fun (W : World) (h : Below w.heap.size w W) => listQ_below hL h)
  have KK := Lib.hid (fun (W : World) (h : Below w.heap.size w W) => listQ_below hK h)
  have AP := Lib.hid (fun (W : World) (h : Below w.heap.size w W) (q1 : ls.length ≤ 1000000) (q2 : more.length ≤ 1000000) => run_app_two W 26 LA KA lc kc ls more (listQ_below hL h) (listQ_below hK h) q1 q2)
  generalize hn : ns.length = n at *
  generalize hm : fs.length = m at *
  generalize hn2 : ms.length = n2 at *
  generalize hm2 : gs.length = m2 at *
  generalize hk : ls.length = k at *
  generalize hk2 : more.length = km at *
  have NE := Lib.hid hn
  have ME := Lib.hid hm
  have NE2 := Lib.hid hn2
  have ME2 := Lib.hid hm2
  have LE := Lib.hid hk
  have KE := Lib.hid hk2
  clear hN hF hM hG hL hK h1 h2 h3 hn hm hn2 hm2 hk hk2
  have B0 := Lib.hid (show Below w.heap.size w (w.alloc (.cells #[.slice NA n nc, .slice FA m fc, .slice MA n2 mc, .slice GA m2 gc, .slice LA k lc] 28)) from (Below.refl _ _).alloc (Nat.le_refl _) _)
  have LX := Lib.hid (lies_new w 28 #[.slice NA n nc, .slice FA m fc, .slice MA n2 mc, .slice GA m2 gc, .slice LA k lc])
  go_enter Try.func8, Try.ntmps8
  go_upto_region 1 with (fail)
  generalize w.alloc (.cells #[.slice NA n nc, .slice FA m fc, .slice MA n2 mc, .slice GA m2 gc, .slice LA k lc] 28) = X at *
  have R5 : ∀ W, Lies W w.heap.size 28 #[.slice NA n nc, .slice FA m fc, .slice MA n2 mc, .slice GA m2 gc, .slice LA k lc] → Hid (W.rangeAt w.heap.size 0 [.slice NA n nc, .slice FA m fc, .slice MA n2 mc, .slice GA m2 gc, .slice LA k lc]) := fun W h => Lib.hid (five_range h)
  go_upto_region 2 with (go_at_call 9; (with_reducible refine (alive_any _).mono ?_); rintro e w1 ⟨rfl, hb⟩; have B1 := Lib.hid (B0.out.trans (hb.mono B0.out.size)); have L1 := Lib.hid (lies_below LX.out hb (lies_lt LX.out)); have Q1 := R5 _ L1.out; clear hb)
  go_upto_region 3 with (first
    | (refine wpList_load_mid rfl 28 _ rfl w.heap.size 0 rfl [.slice NA n nc, .slice FA m fc, .slice MA n2 mc, .slice GA m2 gc, .slice LA k lc] _ Q1.out Try.underlying28 rfl (by kernel_rfl) ?_)
    | (go_at_call 10; (with_reducible refine (KM.out _ B1.out).mono ?_); rintro e w2 ⟨⟨b, rfl, hs⟩, hb⟩; have B2 := Lib.hid (B1.out.trans (hb.mono B1.out.size)); have L2 := Lib.hid (lies_below L1.out hb (lies_lt L1.out)); have SB := Lib.hid hs; clear hb hs Q1))
  cases b with
  | true =>
    go_wp2
    go_ret
    exact ⟨rfl, B2.out⟩
  | false =>
    have S1 := Lib.hid (SB.out rfl)
    clear SB KM
    by_cases hkm : 20 < km
    · have hk1 : (20 : Int) < (km : Int) := by omega
      go_wp2
      go_ret
      exact ⟨rfl, B2.out⟩
    have hk1 : ¬ (20 : Int) < (km : Int) := by omega
    have kmB : km ≤ 20 := by omega
    obtain ⟨sm, hsm⟩ : ∃ sm, sm = sumTo more := ⟨_, rfl⟩
    have M0 : sm 0 = 0 := by rw [hsm]; exact sumTo_zero more
    have M1 := Lib.hid (show ∀ i (h : i < more.length), sm (i + 1) = sm i + more[i].length from fun i h => by rw [hsm]; exact sumTo_succ more i h)
    have M2 := Lib.hid (show sm km = (more.map List.length).sum by rw [hsm, ← KE.out]; exact sumTo_all more)
    clear hsm hkm
    have HKA := Lib.hid (KK.out w2 B2.out)
    go_wp2
    go_loopw [7, 8] (fun v7 v8 wr => ∃ i : Nat, i ≤ km ∧ v8 = .int .i64 (i : Int) ∧ v7 = .int .i64 (sm i : Int) ∧ sm i ≤ 1000 * i ∧ (∀ j (h : j < more.length), j < i → more[j].length ≤ 1000) ∧ wr = w2) (fun _ v8 _ => km - (intOf v8).toNat)
    case atStart => exact ⟨0, Nat.zero_le _, rfl, by rw [M0]; rfl, by omega, fun j _ h => absurd h (Nat.not_lt_zero _), rfl⟩
    case round =>
      obtain ⟨i, hi, rfl, rfl, hs, hj, rfl⟩ := hrel
      have HJ := Lib.hid hj
      clear hj
      by_cases hlt : i < km
      · have li : (i : Int) < (km : Int) := by omega
        have lf : i < more.length := by have := KE.out; omega
        obtain ⟨b, o, DA, dc, eA, hl, d1, d2⟩ := HKA.out i lf
        subst eA
        have s1 := M1.out i lf
        have HQ := Lib.hid (fun (hq : more[i].length ≤ 1000) => (show ∀ j (h : j < more.length), j < i + 1 → more[j].length ≤ 1000 from fun j h hj => by
          by_cases e : j = i
          · subst e; exact hq
          · exact HJ.out j h (by omega)))
        clear d2
        generalize more[i].length = q at *
        by_cases hq : 1000 < q
        · have hq1 : (1000 : Int) < (q : Int) := by omega
          go_wp2
          go_ret
          exact ⟨rfl, B2.out⟩
        · have hq1 : ¬ (1000 : Int) < (q : Int) := by omega
          have wa : wrap64 ((sm i : Int) + (q : Int)) = (sm i : Int) + (q : Int) := wrap_big _ (by omega)
          go_wp2
          go_roundw
          case rel => exact ⟨i + 1, by omega, by go_num, congrArg (Value.int .i64) (by omega), by omega, HQ.out (by omega), trivial⟩
          case measure => first | (simp [intOf]; done) | (simp [intOf]; omega)
      · have hik : i = km := by omega
        subst hik
        have li : ¬ (i : Int) < (i : Int) := by omega
        have P2 := Lib.hid (pair_range L2.out)
        have c4 := lies_cell L2.out 4
        simp only [List.getElem?_toArray, List.getElem?_cons_zero, List.getElem?_cons_succ] at c4
        by_cases he : errM ns fs ms gs ls ≠ 0
        · have HE := Lib.hid he
          clear he
          go_upto_region 13 with (first
            | (refine wpList_load_mid rfl 25 _ rfl w.heap.size 0 rfl [.slice NA n nc, .slice FA m fc] _ P2.out.1 Try.underlying25 rfl (by kernel_rfl) ?_)
            | (refine wpList_load_mid rfl 25 _ rfl w.heap.size 2 rfl [.slice MA n2 mc, .slice GA m2 gc] _ P2.out.2.1 Try.underlying25 rfl (by kernel_rfl) ?_)
            | (go_at_call 13; (with_reducible refine (KX.out _ B2.out S1.out.1 S1.out.2.1 S1.out.2.2 HE.out).mono ?_); rintro e w3 ⟨⟨E, rfl, hE, _⟩, hb⟩; have B3 := Lib.hid (B2.out.trans (hb.mono B2.out.size)); clear hb))
          have hE1 : (E != 0) = true := by simpa using hE
          have hE2 : (E == 0) = false := by simpa using hE
          go_wp2_with (go_at_call 18; (with_reducible refine (num_any _ _).mono ?_); rintro e w4 ⟨rfl, rfl⟩)
          go_ret
          exact ⟨rfl, B3.out⟩
        · have HE := Lib.hid (Decidable.not_not.1 he)
          clear he
          go_upto_region 13 with (first
            | (refine wpList_load_mid rfl 25 _ rfl w.heap.size 0 rfl [.slice NA n nc, .slice FA m fc] _ P2.out.1 Try.underlying25 rfl (by kernel_rfl) ?_)
            | (refine wpList_load_mid rfl 25 _ rfl w.heap.size 2 rfl [.slice MA n2 mc, .slice GA m2 gc] _ P2.out.2.1 Try.underlying25 rfl (by kernel_rfl) ?_)
            | (go_at_call 13; (with_reducible refine (KO.out _ B2.out S1.out.1 S1.out.2.1 S1.out.2.2 HE.out).mono ?_); rintro e w3 ⟨⟨gl, rfl, hgl⟩, hb⟩; have B3 := Lib.hid (B2.out.trans (hb.mono B2.out.size)); have L3 := Lib.hid (lies_below L2.out hb (lies_lt L2.out)); have GL := Lib.hid hgl; clear hb hgl c4 P2))
          have c4 := lies_cell L3.out 4
          simp only [List.getElem?_toArray, List.getElem?_cons_zero, List.getElem?_cons_succ] at c4
          by_cases hk : 100 < k
          · have hk2 : (100 : Int) < (k : Int) := by omega
            go_wp2_with (go_at_call 18; (with_reducible refine (num_any _ _).mono ?_); rintro e w4 ⟨rfl, rfl⟩)
            go_ret
            exact ⟨rfl, B3.out⟩
          have hk2 : ¬ (100 : Int) < (k : Int) := by omega
          have kB : k ≤ 100 := by omega
          clear hk
          obtain ⟨sl, hsl⟩ : ∃ sl, sl = sumTo ls := ⟨_, rfl⟩
          have N0 : sl 0 = 0 := by rw [hsl]; exact sumTo_zero ls
          have N1 := Lib.hid (show ∀ i (h : i < ls.length), sl (i + 1) = sl i + ls[i].length from fun i h => by rw [hsl]; exact sumTo_succ ls i h)
          have N2 := Lib.hid (show sl k = (ls.map List.length).sum by rw [hsl, ← LE.out]; exact sumTo_all ls)
          clear hsl
          have HLA := Lib.hid (KL.out w3 B3.out)
          have hs20 : sm i ≤ 20000 := by omega
          obtain ⟨tm, htm⟩ : ∃ tm, tm = sm i := ⟨_, rfl⟩
          have TM := Lib.hid htm
          have M3 := Lib.hid (show tm = (more.map List.length).sum by rw [htm]; exact M2.out)
          rw [← htm] at hs20
          rw [← htm]
          clear htm hs M0 M2
          go_wp2_with (go_at_call 18; (with_reducible refine (num_any _ _).mono ?_); rintro e w4 ⟨rfl, rfl⟩)
          go_loopw [11, 12] (fun v11 v12 wr => ∃ j : Nat, j ≤ k ∧ v12 = .int .i64 (j : Int) ∧ v11 = .int .i64 ((tm + sl j : Nat) : Int) ∧ sl j ≤ 60000 * j ∧ wr = w3) (fun _ v12 _ => k - (intOf v12).toNat)
          case atStart => exact ⟨0, Nat.zero_le _, rfl, by rw [N0]; rfl, by omega, rfl⟩
          case round =>
            obtain ⟨j, hj, rfl, rfl, hs2, rfl⟩ := hrel
            by_cases hlt2 : j < k
            · have li2 : (j : Int) < (k : Int) := by omega
              have lf : j < ls.length := by have := LE.out; omega
              obtain ⟨b, o, DA, dc, eA, hl, d1, d2⟩ := HLA.out j lf
              subst eA
              have s1 := N1.out j lf
              have s2 := S1.out.2.2.2 ls[j] (List.getElem_mem lf)
              clear d2
              generalize ls[j].length = q at *
              have wa : wrap64 ((tm : Int) + (sl j : Int) + (q : Int)) = (tm : Int) + (sl j : Int) + (q : Int) := wrap_big _ (by omega)
              go_wp2
              go_roundw
              case rel => exact ⟨j + 1, by omega, by go_num, by first | exact congrArg (Value.int .i64) (by omega) | (rw [wa]; exact congrArg (Value.int .i64) (by omega)), by omega, trivial⟩
              case measure => first | (simp [intOf]; done) | (simp [intOf]; omega)
            · have hjk : j = k := by omega
              subst hjk
              have li2 : ¬ (j : Int) < (j : Int) := by omega
              by_cases hbig : 65536 < tm + sl j
              · have hb1 : (65536 : Int) < ((tm + sl j : Nat) : Int) := by omega
                go_wp2
                go_ret
                exact ⟨rfl, B3.out⟩
              have hb1 : ¬ (65536 : Int) < ((tm + sl j : Nat) : Int) := by omega
              have HJ2 := Lib.hid (show ∀ x ∈ more, x.length ≤ 1000 from fun x hx => by
                obtain ⟨a, ha, rfl⟩ := List.getElem_of_mem hx
                exact HJ.out a ha (by have := KE.out; omega))
              have HM := Lib.hid (errM_more HE.out (more := more) (by have := LE.out; omega) (by have := KE.out; omega) HJ2.out (by have := M3.out; have := N2.out; omega) (by have := S1.out.2.1.2.1; omega))
              go_upto_region 22 with (fail)
              obtain ⟨D, hA1, hA2⟩ := AP.out wr B3.out (by omega) (by omega)
              have AD := Lib.hid (And.intro hA1 hA2)
              have KM2 := Lib.hid (fun (W : World) (h : Below wr.heap.size wr W) (C : Option Addr) (cc : Nat) (hC : ListQ W C (ls ++ more)) => (show Calls Try.prog 13 #[.agg #[.slice NA n nc, .slice FA m fc], .agg #[.slice MA n2 mc, .slice GA m2 gc], .slice C (j + i) cc] W fun e w' => (∃ g, e = .returned (.tuple #[.slice (some ⟨g, 0, none⟩) m2 m2, .int .i64 0]) ∧ SrcR w' g (matchL ns fs ms gs ls).1) ∧ Below W.heap.size W w' from by
                have := KT.out W (B3.out.trans (h.mono B3.out.size)) S1.out.1 S1.out.2.1 C cc hC (by rw [List.length_append]; have := LE.out; have := KE.out; omega) (fun x hx => by
                  rcases List.mem_append.1 hx with hx | hx
                  · have := S1.out.2.2.2 x hx; omega
                  · have := HJ2.out x hx; omega) HM.out.1
                rw [HM.out.2, List.length_append, LE.out, KE.out] at this
                exact this))
              have SS := Lib.hid (fun (W : World) (gm : Nat) (h1 : SrcR W gl (matchL ns fs ms gs ls).1) (h2 : SrcR W gm (matchL ns fs ms gs ls).1) => (show Calls Try.prog 19 #[.slice (some ⟨gl, 0, none⟩) m2 m2, .slice (some ⟨gm, 0, none⟩) m2 m2] W fun e w' => e = .returned (.bool true) ∧ Below W.heap.size W w' from by
                have := sames_any gl gm m2 m2 (matchL ns fs ms gs ls).1 W h1 h2 (by rw [matchL_len]; have := S1.out.2.1.2.1; omega)
                rwa [matchL_len, ME2.out] at this))
              clear hA1 hA2 AP KT HM c4
              have KF : ∀ (lq : Array Bool) (pq kq : Nat) (uq : Value) (W W' : World), (pq ≠ 8) → W.grownBy W' none → ((fun (l_ : Array Bool) (j_ : Nat) (v_ : Value) (W : World) => match j_ with | 0 => v_ = .pointer (some ⟨w.heap.size, 0, none⟩) | 1 => v_ = .agg #[.slice NA n nc, .slice FA m fc] | 2 => v_ = .pointer (some ⟨w.heap.size, 2, none⟩) | 3 => v_ = .agg #[.slice MA n2 mc, .slice GA m2 gc] | 4 => v_ = .pointer (some ⟨w.heap.size, 4, none⟩) | 5 => v_ = .slice LA j lc | 6 => (∃ v6, v_ = v6 ∧ (l_.getD 8 false = false → (W.ownsRow wr.heap.size 47 1 v6 j (lcells D j)))) | 7 => v_ = .slice KA i kc | 8 => (∃ CA cc, v_ = .slice CA (j + i) cc ∧ (ListQ W CA (ls ++ more))) | 9 => (∃ gm, v_ = .tuple #[.slice (some ⟨gm, 0, none⟩) m2 m2, .int .i64 0] ∧ (SrcR W gm (matchL ns fs ms gs ls).1)) | 10 => (∃ gm, v_ = .tuple #[.slice (some ⟨gm, 0, none⟩) m2 m2, .int .i64 0] ∧ (SrcR W gm (matchL ns fs ms gs ls).1)) | 11 => (∃ gm, v_ = .slice (some ⟨gm, 0, none⟩) m2 m2 ∧ (SrcR W gm (matchL ns fs ms gs ls).1)) | 12 => v_ = .int .i64 0 | 13 => (∃ gm, v_ = .slice (some ⟨gm, 0, none⟩) m2 m2 ∧ (SrcR W gm (matchL ns fs ms gs ls).1)) | 14 => v_ = .int .i64 0 | _ => True) : Array Bool → Nat → Value → World → Prop) lq kq uq W → ((fun (l_ : Array Bool) (j_ : Nat) (v_ : Value) (W : World) => match j_ with | 0 => v_ = .pointer (some ⟨w.heap.size, 0, none⟩) | 1 => v_ = .agg #[.slice NA n nc, .slice FA m fc] | 2 => v_ = .pointer (some ⟨w.heap.size, 2, none⟩) | 3 => v_ = .agg #[.slice MA n2 mc, .slice GA m2 gc] | 4 => v_ = .pointer (some ⟨w.heap.size, 4, none⟩) | 5 => v_ = .slice LA j lc | 6 => (∃ v6, v_ = v6 ∧ (l_.getD 8 false = false → (W.ownsRow wr.heap.size 47 1 v6 j (lcells D j)))) | 7 => v_ = .slice KA i kc | 8 => (∃ CA cc, v_ = .slice CA (j + i) cc ∧ (ListQ W CA (ls ++ more))) | 9 => (∃ gm, v_ = .tuple #[.slice (some ⟨gm, 0, none⟩) m2 m2, .int .i64 0] ∧ (SrcR W gm (matchL ns fs ms gs ls).1)) | 10 => (∃ gm, v_ = .tuple #[.slice (some ⟨gm, 0, none⟩) m2 m2, .int .i64 0] ∧ (SrcR W gm (matchL ns fs ms gs ls).1)) | 11 => (∃ gm, v_ = .slice (some ⟨gm, 0, none⟩) m2 m2 ∧ (SrcR W gm (matchL ns fs ms gs ls).1)) | 12 => v_ = .int .i64 0 | 13 => (∃ gm, v_ = .slice (some ⟨gm, 0, none⟩) m2 m2 ∧ (SrcR W gm (matchL ns fs ms gs ls).1)) | 14 => v_ = .int .i64 0 | _ => True) : Array Bool → Nat → Value → World → Prop) (lq.setIfInBounds pq true) kq uq W' := fun lq pq kq uq W W' hp hg h => by
                have h8_ : (lq.setIfInBounds pq true).getD 8 false = lq.getD 8 false := by rw [getD_set_ne false (hp)]
                have kl : ∀ {g t cs}, Lies W g t cs → Lies W' g t cs := fun h => (hg.block _ (lies_lt h) (by simp)).trans h
                have ko : ∀ {B e z v k xs}, W.ownsRow B e z v k xs → W'.ownsRow B e z v k xs := fun {B e z v k xs} h => h.kept hg (by cases v.ownBlock <;> simp)
                match kq, h with
                | 0, h => exact h
                | 1, h => exact h
                | 2, h => exact h
                | 3, h => exact h
                | 4, h => exact h
                | 5, h => exact h
                | 6, ⟨v6, e, h⟩ => exact ⟨v6, e, fun h6 => by have h := h (by rw [← h8_]; exact h6); exact ko h⟩
                | 7, h => exact h
                | 8, ⟨CA, cc, e, h⟩ => exact ⟨CA, cc, e, listQ_grown h hg⟩
                | 9, ⟨gm, e, h⟩ => exact ⟨gm, e, srcR_keep h (hg.block _ (lies_lt (srcR_lies h).choose_spec) (by simp))⟩
                | 10, ⟨gm, e, h⟩ => exact ⟨gm, e, srcR_keep h (hg.block _ (lies_lt (srcR_lies h).choose_spec) (by simp))⟩
                | 11, ⟨gm, e, h⟩ => exact ⟨gm, e, srcR_keep h (hg.block _ (lies_lt (srcR_lies h).choose_spec) (by simp))⟩
                | 12, h => exact h
                | 13, ⟨gm, e, h⟩ => exact ⟨gm, e, srcR_keep h (hg.block _ (lies_lt (srcR_lies h).choose_spec) (by simp))⟩
                | 14, h => exact h
                | _ + 15, _ => exact trivial
              have gr : ∀ W : World, W.grownBy W none := fun W => ⟨rfl, rfl, rfl, Nat.le_refl _, fun _ _ _ => rfl⟩
              have KP := fun (lq : Array Bool) (pq : Nat) (W : World) (hp : pq ≠ 8) => fun (kq : Nat) (uq : Value) (_ : kq ≠ pq) (_ : lq.getD kq false = true) (h : ((fun (l_ : Array Bool) (j_ : Nat) (v_ : Value) (W : World) => match j_ with | 0 => v_ = .pointer (some ⟨w.heap.size, 0, none⟩) | 1 => v_ = .agg #[.slice NA n nc, .slice FA m fc] | 2 => v_ = .pointer (some ⟨w.heap.size, 2, none⟩) | 3 => v_ = .agg #[.slice MA n2 mc, .slice GA m2 gc] | 4 => v_ = .pointer (some ⟨w.heap.size, 4, none⟩) | 5 => v_ = .slice LA j lc | 6 => (∃ v6, v_ = v6 ∧ (l_.getD 8 false = false → (W.ownsRow wr.heap.size 47 1 v6 j (lcells D j)))) | 7 => v_ = .slice KA i kc | 8 => (∃ CA cc, v_ = .slice CA (j + i) cc ∧ (ListQ W CA (ls ++ more))) | 9 => (∃ gm, v_ = .tuple #[.slice (some ⟨gm, 0, none⟩) m2 m2, .int .i64 0] ∧ (SrcR W gm (matchL ns fs ms gs ls).1)) | 10 => (∃ gm, v_ = .tuple #[.slice (some ⟨gm, 0, none⟩) m2 m2, .int .i64 0] ∧ (SrcR W gm (matchL ns fs ms gs ls).1)) | 11 => (∃ gm, v_ = .slice (some ⟨gm, 0, none⟩) m2 m2 ∧ (SrcR W gm (matchL ns fs ms gs ls).1)) | 12 => v_ = .int .i64 0 | 13 => (∃ gm, v_ = .slice (some ⟨gm, 0, none⟩) m2 m2 ∧ (SrcR W gm (matchL ns fs ms gs ls).1)) | 14 => v_ = .int .i64 0 | _ => True) : Array Bool → Nat → Value → World → Prop) lq kq uq W) => KF lq pq kq uq W W hp (gr W) h
              have IV : ∀ (lq : Array Bool) (pq : Nat) (W W' : World), (True) → W.grownBy W' none → ((fun (l_ : Array Bool) (W : World) => Below wr.heap.size wr W) : Array Bool → World → Prop) lq W → ((fun (l_ : Array Bool) (W : World) => Below wr.heap.size wr W) : Array Bool → World → Prop) (lq.setIfInBounds pq true) W' := fun lq pq W W' _ hg h => h.grown hg h.size (fun k e => by cases e)
              refine wp_region_any (by kernel_rfl) ?_
              refine every_factI (own := ownAll _) id ((fun (l_ : Array Bool) (j_ : Nat) (v_ : Value) (W : World) => match j_ with | 0 => v_ = .pointer (some ⟨w.heap.size, 0, none⟩) | 1 => v_ = .agg #[.slice NA n nc, .slice FA m fc] | 2 => v_ = .pointer (some ⟨w.heap.size, 2, none⟩) | 3 => v_ = .agg #[.slice MA n2 mc, .slice GA m2 gc] | 4 => v_ = .pointer (some ⟨w.heap.size, 4, none⟩) | 5 => v_ = .slice LA j lc | 6 => (∃ v6, v_ = v6 ∧ (l_.getD 8 false = false → (W.ownsRow wr.heap.size 47 1 v6 j (lcells D j)))) | 7 => v_ = .slice KA i kc | 8 => (∃ CA cc, v_ = .slice CA (j + i) cc ∧ (ListQ W CA (ls ++ more))) | 9 => (∃ gm, v_ = .tuple #[.slice (some ⟨gm, 0, none⟩) m2 m2, .int .i64 0] ∧ (SrcR W gm (matchL ns fs ms gs ls).1)) | 10 => (∃ gm, v_ = .tuple #[.slice (some ⟨gm, 0, none⟩) m2 m2, .int .i64 0] ∧ (SrcR W gm (matchL ns fs ms gs ls).1)) | 11 => (∃ gm, v_ = .slice (some ⟨gm, 0, none⟩) m2 m2 ∧ (SrcR W gm (matchL ns fs ms gs ls).1)) | 12 => v_ = .int .i64 0 | 13 => (∃ gm, v_ = .slice (some ⟨gm, 0, none⟩) m2 m2 ∧ (SrcR W gm (matchL ns fs ms gs ls).1)) | 14 => v_ = .int .i64 0 | _ => True) : Array Bool → Nat → Value → World → Prop) ((fun (l_ : Array Bool) (W : World) => Below wr.heap.size wr W) : Array Bool → World → Prop) (acAll_of (by kernel_rfl)) (onAll_of (by kernel_rfl)) (dstAll_of (by kernel_rfl)) ?hop ?hend _ _ _ _ (fun _ => undef) rfl (shut_none _) (of_decide_eq_true (by kernel_rfl)) (tabd_start (fun i => rep_false _ i)) (fun k hk => by rw [rep_false] at hk; cases hk) (Below.refl _ _).drew
              case hop =>
                intro j oi a w0 listed vals hoi hs hcl hun hdeps ht hF hI
                have hj : j < 15 := (Array.getElem?_eq_some_iff.1 hoi).1
                have cj : j = 0 ∨ j = 1 ∨ j = 2 ∨ j = 3 ∨ j = 4 ∨ j = 5 ∨ j = 6 ∨ j = 7 ∨ j = 8 ∨ j = 9 ∨ j = 10 ∨ j = 11 ∨ j = 12 ∨ j = 13 ∨ j = 14 := by omega
                obtain rfl | rfl | rfl | rfl | rfl | rfl | rfl | rfl | rfl | rfl | rfl | rfl | rfl | rfl | rfl := cj
                all_goals obtain rfl := Option.some.inj hoi
                · have e2 : a.eval (.tmp 2) = .pointer (some ⟨w.heap.size, 0, none⟩) := (tabd_old ht (t := 2) (of_decide_eq_true (by kernel_rfl)) (by kernel_rfl)).trans rfl
                  exact .inl ⟨rfl, fun K hk => wp_val (v := .pointer (some ⟨w.heap.size, 0, none⟩)) (by clear hk hI hoi hdeps ht hF hcl hs KF KP IV; generalize a.eval = ρ at *; unfold execOp; simp only [e2]; go_simp; try (intro hq_; exfalso; omega)) (hk _ _ rfl (KP listed 0 w0 (by decide)) (IV listed 0 w0 w0 (by decide) (gr w0) hI))⟩
                · have d0 := hdeps ⟨0, .data⟩ (by simp) rfl
                  have e86 : a.eval (.tmp 86) = .pointer (some ⟨w.heap.size, 0, none⟩) := (tabd_at ht (t := 86) (of_decide_eq_true (by kernel_rfl)) (by kernel_rfl) d0).trans (hF 0 d0)
                  refine .inl ⟨rfl, fun K hk => ?_⟩
                  have hL := lies_below L3.out hI (lies_lt L3.out)
                  have hc := (pair_range hL).1
                  exact wp_val (v := .agg #[.slice NA n nc, .slice FA m fc]) (load_op 25 _ rfl w.heap.size 0 e86 _ _ hc Try.underlying25 rfl (by kernel_rfl)) (hk _ _ rfl (KP listed 1 w0 (by decide)) (IV listed 1 w0 w0 (by decide) (gr w0) hI))
                · have e2 : a.eval (.tmp 2) = .pointer (some ⟨w.heap.size, 0, none⟩) := (tabd_old ht (t := 2) (of_decide_eq_true (by kernel_rfl)) (by kernel_rfl)).trans rfl
                  exact .inl ⟨rfl, fun K hk => wp_val (v := .pointer (some ⟨w.heap.size, 2, none⟩)) (by clear hk hI hoi hdeps ht hF hcl hs KF KP IV; generalize a.eval = ρ at *; unfold execOp; simp only [e2]; go_simp; try (intro hq_; exfalso; omega)) (hk _ _ rfl (KP listed 2 w0 (by decide)) (IV listed 2 w0 w0 (by decide) (gr w0) hI))⟩
                · have d2 := hdeps ⟨2, .data⟩ (by simp) rfl
                  have e88 : a.eval (.tmp 88) = .pointer (some ⟨w.heap.size, 2, none⟩) := (tabd_at ht (t := 88) (of_decide_eq_true (by kernel_rfl)) (by kernel_rfl) d2).trans (hF 2 d2)
                  refine .inl ⟨rfl, fun K hk => ?_⟩
                  have hL := lies_below L3.out hI (lies_lt L3.out)
                  have hc := (pair_range hL).2.1
                  exact wp_val (v := .agg #[.slice MA n2 mc, .slice GA m2 gc]) (load_op 25 _ rfl w.heap.size 2 e88 _ _ hc Try.underlying25 rfl (by kernel_rfl)) (hk _ _ rfl (KP listed 3 w0 (by decide)) (IV listed 3 w0 w0 (by decide) (gr w0) hI))
                · have e2 : a.eval (.tmp 2) = .pointer (some ⟨w.heap.size, 0, none⟩) := (tabd_old ht (t := 2) (of_decide_eq_true (by kernel_rfl)) (by kernel_rfl)).trans rfl
                  exact .inl ⟨rfl, fun K hk => wp_val (v := .pointer (some ⟨w.heap.size, 4, none⟩)) (by clear hk hI hoi hdeps ht hF hcl hs KF KP IV; generalize a.eval = ρ at *; unfold execOp; simp only [e2]; go_simp; try (intro hq_; exfalso; omega)) (hk _ _ rfl (KP listed 4 w0 (by decide)) (IV listed 4 w0 w0 (by decide) (gr w0) hI))⟩
                · have d4 := hdeps ⟨4, .data⟩ (by simp) rfl
                  have e90 : a.eval (.tmp 90) = .pointer (some ⟨w.heap.size, 4, none⟩) := (tabd_at ht (t := 90) (of_decide_eq_true (by kernel_rfl)) (by kernel_rfl) d4).trans (hF 4 d4)
                  refine .inl ⟨rfl, fun K hk => ?_⟩
                  have hL := lies_below L3.out hI (lies_lt L3.out)
                  have x4 := lies_cell hL 4
                  simp only [List.getElem?_toArray, List.getElem?_cons_zero, List.getElem?_cons_succ] at x4
                  exact wp_val (v := .slice LA j lc) (by clear hL hk hI hoi hdeps ht hF hcl hs KF KP IV; generalize a.eval = ρ at *; unfold execOp; simp only [e90]; go_simp) (hk _ _ rfl (KP listed 5 w0 (by decide)) (IV listed 5 w0 w0 (by decide) (gr w0) hI))
                · have d5 := hdeps ⟨5, .data⟩ (by simp) rfl
                  have e91 : a.eval (.tmp 91) = .slice LA j lc := (tabd_at ht (t := 91) (of_decide_eq_true (by kernel_rfl)) (by kernel_rfl) d5).trans (hF 5 d5)
                  refine .inl ⟨rfl, fun K hk => ?_⟩
                  obtain ⟨v', w', r1, r2, r3⟩ := AD.out.1 w0 hI
                  exact wp_valT (v := v') (w' := w') (app_op _ _ rfl rfl e91 r1) (hk _ _ ⟨_, rfl, fun _ => r2⟩ (fun k u _ _ h => KF listed 6 k u w0 _ (by decide) r3 h) (IV listed 6 w0 _ (by decide) r3 hI))
                · have e1 : a.eval (.tmp 1) = .slice KA i kc := (tabd_old ht (t := 1) (of_decide_eq_true (by kernel_rfl)) (by kernel_rfl)).trans rfl
                  exact .inl ⟨rfl, fun K hk => wp_val (v := .slice KA i kc) (by clear hk hI hoi hdeps ht hF hcl hs KF KP IV; generalize a.eval = ρ at *; unfold execOp; simp only [e1]; go_simp; try (intro hq_; exfalso; omega)) (hk _ _ rfl (KP listed 7 w0 (by decide)) (IV listed 7 w0 w0 (by decide) (gr w0) hI))⟩
                · have d6 := hdeps ⟨6, .data⟩ (by simp) rfl
                  have d7 := hdeps ⟨7, .data⟩ (by simp) rfl
                  have f6 := hF 6 d6
                  have e92 : a.eval (.tmp 92) = vals 6 := tabd_at ht (t := 92) (of_decide_eq_true (by kernel_rfl)) (by kernel_rfl) d6
                  have e93 : a.eval (.tmp 93) = .slice KA i kc := (tabd_at ht (t := 93) (of_decide_eq_true (by kernel_rfl)) (by kernel_rfl) d7).trans (hF 7 d7)
                  refine .inl ⟨rfl, fun K hk => ?_⟩
                  have PR := fun W' => show ∀ (kq : Nat) (uq : Value), kq ≠ 8 → listed.getD kq false = true → ((fun (l_ : Array Bool) (j_ : Nat) (v_ : Value) (W : World) => match j_ with | 0 => v_ = .pointer (some ⟨w.heap.size, 0, none⟩) | 1 => v_ = .agg #[.slice NA n nc, .slice FA m fc] | 2 => v_ = .pointer (some ⟨w.heap.size, 2, none⟩) | 3 => v_ = .agg #[.slice MA n2 mc, .slice GA m2 gc] | 4 => v_ = .pointer (some ⟨w.heap.size, 4, none⟩) | 5 => v_ = .slice LA j lc | 6 => (∃ v6, v_ = v6 ∧ (l_.getD 8 false = false → (W.ownsRow wr.heap.size 47 1 v6 j (lcells D j)))) | 7 => v_ = .slice KA i kc | 8 => (∃ CA cc, v_ = .slice CA (j + i) cc ∧ (ListQ W CA (ls ++ more))) | 9 => (∃ gm, v_ = .tuple #[.slice (some ⟨gm, 0, none⟩) m2 m2, .int .i64 0] ∧ (SrcR W gm (matchL ns fs ms gs ls).1)) | 10 => (∃ gm, v_ = .tuple #[.slice (some ⟨gm, 0, none⟩) m2 m2, .int .i64 0] ∧ (SrcR W gm (matchL ns fs ms gs ls).1)) | 11 => (∃ gm, v_ = .slice (some ⟨gm, 0, none⟩) m2 m2 ∧ (SrcR W gm (matchL ns fs ms gs ls).1)) | 12 => v_ = .int .i64 0 | 13 => (∃ gm, v_ = .slice (some ⟨gm, 0, none⟩) m2 m2 ∧ (SrcR W gm (matchL ns fs ms gs ls).1)) | 14 => v_ = .int .i64 0 | _ => True) : Array Bool → Nat → Value → World → Prop) listed kq uq w0 → ((fun (l_ : Array Bool) (j_ : Nat) (v_ : Value) (W : World) => match j_ with | 0 => v_ = .pointer (some ⟨w.heap.size, 0, none⟩) | 1 => v_ = .agg #[.slice NA n nc, .slice FA m fc] | 2 => v_ = .pointer (some ⟨w.heap.size, 2, none⟩) | 3 => v_ = .agg #[.slice MA n2 mc, .slice GA m2 gc] | 4 => v_ = .pointer (some ⟨w.heap.size, 4, none⟩) | 5 => v_ = .slice LA j lc | 6 => (∃ v6, v_ = v6 ∧ (l_.getD 8 false = false → (W.ownsRow wr.heap.size 47 1 v6 j (lcells D j)))) | 7 => v_ = .slice KA i kc | 8 => (∃ CA cc, v_ = .slice CA (j + i) cc ∧ (ListQ W CA (ls ++ more))) | 9 => (∃ gm, v_ = .tuple #[.slice (some ⟨gm, 0, none⟩) m2 m2, .int .i64 0] ∧ (SrcR W gm (matchL ns fs ms gs ls).1)) | 10 => (∃ gm, v_ = .tuple #[.slice (some ⟨gm, 0, none⟩) m2 m2, .int .i64 0] ∧ (SrcR W gm (matchL ns fs ms gs ls).1)) | 11 => (∃ gm, v_ = .slice (some ⟨gm, 0, none⟩) m2 m2 ∧ (SrcR W gm (matchL ns fs ms gs ls).1)) | 12 => v_ = .int .i64 0 | 13 => (∃ gm, v_ = .slice (some ⟨gm, 0, none⟩) m2 m2 ∧ (SrcR W gm (matchL ns fs ms gs ls).1)) | 14 => v_ = .int .i64 0 | _ => True) : Array Bool → Nat → Value → World → Prop) (listed.setIfInBounds 8 true) kq uq W' from
                    (fun kq uq hkp hkl h => by
                      have s_ : (listed.setIfInBounds 8 true).getD 8 false = true := getD_here (by rw [hs]; decide)
                      match kq, hkp, hkl, h with
                      | 0, _, _, h => exact h
                      | 1, _, _, h => exact h
                      | 2, _, _, h => exact h
                      | 3, _, _, h => exact h
                      | 4, _, _, h => exact h
                      | 5, _, _, h => exact h
                      | 6, _, _, ⟨v6, e, _⟩ => exact ⟨v6, e, fun h6 => by rw [s_] at h6; cases h6⟩
                      | 7, _, _, h => exact h
                      | 8, hk, _, _ => exact absurd rfl hk
                      | 9, _, h, _ => exact absurd ((hcl 9 _ rfl h ⟨8, .data⟩ (by simp) rfl)) (by simp [hun])
                      | 10, _, h, _ => exact absurd ((hcl 9 _ rfl (hcl 10 _ rfl h ⟨9, .data⟩ (by simp) rfl) ⟨8, .data⟩ (by simp) rfl)) (by simp [hun])
                      | 11, _, h, _ => exact absurd ((hcl 9 _ rfl (hcl 10 _ rfl (hcl 11 _ rfl h ⟨10, .data⟩ (by simp) rfl) ⟨9, .data⟩ (by simp) rfl) ⟨8, .data⟩ (by simp) rfl)) (by simp [hun])
                      | 12, _, _, h => exact h
                      | 13, _, h, _ => exact absurd ((hcl 13 _ rfl h ⟨8, .phase⟩ (by simp) rfl)) (by simp [hun])
                      | 14, _, _, h => exact h
                      | _ + 15, _, _, _ => exact trivial)
                  obtain ⟨v6, e6, h6⟩ := hF 6 d6
                  have h6 := h6 hun
                  obtain ⟨C, cc, w', r1, r2, r3⟩ := AD.out.2 w0 v6 hI h6
                  rw [e6] at e92
                  have hb : Below wr.heap.size wr w' := hI.grown r3 hI.size (fun k e => (own_heap h6 k e).1)
                  exact wp_valT (v := .slice C (j + i) cc) (w' := w') (app_op _ _ rfl e92 e93 r1) (hk _ _ ⟨_, _, rfl, r2⟩ (PR _) hb)
                · have d1 := hdeps ⟨1, .data⟩ (by simp) rfl
                  have d3 := hdeps ⟨3, .data⟩ (by simp) rfl
                  have d8 := hdeps ⟨8, .data⟩ (by simp) rfl
                  have e87 : a.eval (.tmp 87) = .agg #[.slice NA n nc, .slice FA m fc] := (tabd_at ht (t := 87) (of_decide_eq_true (by kernel_rfl)) (by kernel_rfl) d1).trans (hF 1 d1)
                  have e89 : a.eval (.tmp 89) = .agg #[.slice MA n2 mc, .slice GA m2 gc] := (tabd_at ht (t := 89) (of_decide_eq_true (by kernel_rfl)) (by kernel_rfl) d3).trans (hF 3 d3)
                  have f8 := hF 8 d8
                  have e94 : a.eval (.tmp 94) = vals 8 := tabd_at ht (t := 94) (of_decide_eq_true (by kernel_rfl)) (by kernel_rfl) d8
                  have ef13 : a.eval (.func 13) = .func (.func 13) #[] #[] := rfl
                  refine .inl ⟨rfl, fun K hk => ?_⟩
                  obtain ⟨CA, cc, e8, h8⟩ := hF 8 d8
                  rw [e8] at e94
                  have hR := KM2.out w0 hI CA cc h8
                  refine wp_enter (by clear hk hI hoi hdeps ht hF hcl hs KF KP IV hR h8 e8 f8; generalize a.eval = ρ at *; unfold execOp; simp only [e87, e89, e94, ef13]; go_simp) hR ?_
                  rintro e w2 ⟨⟨gm, rfl, h1⟩, h2⟩
                  exact ⟨_, rfl, hk _ w2 ⟨gm, rfl, h1⟩ (fun k u _ _ h => KF listed 9 k u w0 w2 (by decide) (grown_of_below h2) h) (hI.trans (h2.mono hI.size))⟩
                · have d9 := hdeps ⟨9, .data⟩ (by simp) rfl
                  have f9 := hF 9 d9
                  have e95 : a.eval (.tmp 95) = vals 9 := tabd_at ht (t := 95) (of_decide_eq_true (by kernel_rfl)) (by kernel_rfl) d9
                  refine .inl ⟨rfl, fun K hk => ?_⟩
                  obtain ⟨gm, e_, h_⟩ := hF 9 d9
                  rw [e_] at e95
                  exact wp_val (v := .tuple #[.slice (some ⟨gm, 0, none⟩) m2 m2, .int .i64 0]) (by clear h_ e_ f9; clear hk hI hoi hdeps ht hF hcl hs KF KP IV; generalize a.eval = ρ at *; unfold execOp; simp only [e95]; go_simp) (hk _ _ ⟨gm, rfl, h_⟩ (KP listed 10 w0 (by decide)) (IV listed 10 w0 w0 (by decide) (gr w0) hI))
                · have d10 := hdeps ⟨10, .data⟩ (by simp) rfl
                  have f10 := hF 10 d10
                  have e85 : a.eval (.tmp 85) = vals 10 := tabd_at ht (t := 85) (of_decide_eq_true (by kernel_rfl)) (by kernel_rfl) d10
                  refine .inl ⟨rfl, fun K hk => ?_⟩
                  obtain ⟨gm, e_, h_⟩ := hF 10 d10
                  rw [e_] at e85
                  exact wp_val (v := .slice (some ⟨gm, 0, none⟩) m2 m2) (by clear h_ e_ f10; clear hk hI hoi hdeps ht hF hcl hs KF KP IV; generalize a.eval = ρ at *; unfold execOp; simp only [e85]; go_simp) (hk _ _ ⟨gm, rfl, h_⟩ (KP listed 11 w0 (by decide)) (IV listed 11 w0 w0 (by decide) (gr w0) hI))
                · have d10 := hdeps ⟨10, .data⟩ (by simp) rfl
                  have f10 := hF 10 d10
                  have e85 : a.eval (.tmp 85) = vals 10 := tabd_at ht (t := 85) (of_decide_eq_true (by kernel_rfl)) (by kernel_rfl) d10
                  refine .inl ⟨rfl, fun K hk => ?_⟩
                  obtain ⟨gm, e_, h_⟩ := hF 10 d10
                  rw [e_] at e85
                  exact wp_val (v := .int .i64 0) (by clear h_ e_ f10; clear hk hI hoi hdeps ht hF hcl hs KF KP IV; generalize a.eval = ρ at *; unfold execOp; simp only [e85]; go_simp) (hk _ _ rfl (KP listed 12 w0 (by decide)) (IV listed 12 w0 w0 (by decide) (gr w0) hI))
                · have d11 := hdeps ⟨11, .data⟩ (by simp) rfl
                  have d9 := hdeps ⟨9, .chain⟩ (by simp) rfl
                  have f11 := hF 11 d11
                  have e96 : a.eval (.tmp 96) = vals 11 := tabd_at ht (t := 96) (of_decide_eq_true (by kernel_rfl)) (by kernel_rfl) d11
                  refine .inl ⟨rfl, fun K hk => ?_⟩
                  obtain ⟨gm, e_, h_⟩ := hF 11 d11
                  rw [e_] at e96
                  exact wp_val (v := .slice (some ⟨gm, 0, none⟩) m2 m2) (by clear h_ e_ f11; clear hk hI hoi hdeps ht hF hcl hs KF KP IV; generalize a.eval = ρ at *; unfold execOp; simp only [e96]; go_simp) (hk _ _ ⟨gm, rfl, h_⟩ (KP listed 13 w0 (by decide)) (IV listed 13 w0 w0 (by decide) (gr w0) hI))
                · have d12 := hdeps ⟨12, .data⟩ (by simp) rfl
                  have d13 := hdeps ⟨13, .chain⟩ (by simp) rfl
                  have e97 : a.eval (.tmp 97) = .int .i64 0 := (tabd_at ht (t := 97) (of_decide_eq_true (by kernel_rfl)) (by kernel_rfl) d12).trans (hF 12 d12)
                  exact .inl ⟨rfl, fun K hk => wp_val (v := .int .i64 0) (by clear hk hI hoi hdeps ht hF hcl hs KF KP IV; generalize a.eval = ρ at *; unfold execOp; simp only [e97]; go_simp; try (intro hq_; exfalso; omega)) (hk _ _ rfl (KP listed 14 w0 (by decide)) (IV listed 14 w0 w0 (by decide) (gr w0) hI))⟩
              case hend =>
                intro a w0 listed vals hall ht hF hI
                rw [tabd_fill ht (fun t i ho => hall i (ownAll_lt ho))]
                have g0 : vals 0 = .pointer (some ⟨w.heap.size, 0, none⟩) := hF 0 (by decide)
                have g1 : vals 1 = .agg #[.slice NA n nc, .slice FA m fc] := hF 1 (by decide)
                have g2 : vals 2 = .pointer (some ⟨w.heap.size, 2, none⟩) := hF 2 (by decide)
                have g3 : vals 3 = .agg #[.slice MA n2 mc, .slice GA m2 gc] := hF 3 (by decide)
                have g4 : vals 4 = .pointer (some ⟨w.heap.size, 4, none⟩) := hF 4 (by decide)
                have g5 : vals 5 = .slice LA j lc := hF 5 (by decide)
                have g6 := hF 6 (by decide)
                have g7 : vals 7 = .slice KA i kc := hF 7 (by decide)
                have g8 := hF 8 (by decide)
                have g9 := hF 9 (by decide)
                have g10 := hF 10 (by decide)
                have g11 := hF 11 (by decide)
                have g12 : vals 12 = .int .i64 0 := hF 12 (by decide)
                have g13 := hF 13 (by decide)
                have g14 : vals 14 = .int .i64 0 := hF 14 (by decide)
                change Exit.then _ _ Exit.normal { tmps := (.agg #[.slice NA n nc, .slice FA m fc, .slice MA n2 mc, .slice GA m2 gc, .slice LA j lc] :: .slice KA i kc :: .pointer (some ⟨w.heap.size, 0, none⟩) :: undef :: u4 :: .bool true :: .bool false :: .int .i64 ↑tm :: .int .i64 ↑i :: .slice (some ⟨gl, 0, none⟩) m2 m2 :: .int .i64 0 :: .int .i64 ↑(tm + sl j) :: .int .i64 ↑j :: vals 13 :: vals 14 :: .bool true :: .agg #[.slice NA n nc, .slice FA m fc, .slice MA n2 mc, .slice GA m2 gc, .slice LA j lc] :: .bool false :: .bool true :: .bool false :: .bool false :: .bool false :: .bool false :: .bool false :: .slice KA i kc :: .int .i64 ↑i :: .bool false :: .bool false :: undef :: .int .i64 ↑i :: .slice KA i kc :: .int .i64 ↑i :: .bool false :: u33 :: u34 :: u35 :: u36 :: u37 :: u38 :: u39 :: u40 :: u41 :: u42 :: u43 :: u44 :: u45 :: u46 :: u47 :: .tuple #[.slice (some ⟨gl, 0, none⟩) m2 m2, .int .i64 0] :: .pointer (some ⟨w.heap.size, 0, none⟩) :: .agg #[.slice NA n nc, .slice FA m fc] :: .pointer (some ⟨w.heap.size, 2, none⟩) :: .agg #[.slice MA n2 mc, .slice GA m2 gc] :: .pointer (some ⟨w.heap.size, 4, none⟩) :: .slice LA j lc :: .tuple #[.slice (some ⟨gl, 0, none⟩) m2 m2, .int .i64 0] :: .slice (some ⟨gl, 0, none⟩) m2 m2 :: .int .i64 0 :: .int .i64 0 :: .int .i64 0 :: .bool false :: .bool false :: .pointer (some ⟨w.heap.size, 4, none⟩) :: .slice LA j lc :: .int .i64 ↑j :: .bool (decide ((100 : Int) < ↑j)) :: .bool (decide ((100 : Int) < ↑j)) :: .int .i64 ↑tm :: .int .i64 ↑j :: .pointer (some ⟨w.heap.size, 4, none⟩) :: .slice LA j lc :: .int .i64 ↑j :: .bool false :: u73 :: u74 :: u75 :: u76 :: u77 :: u78 :: u79 :: u80 :: u81 :: u82 :: .int .i64 ↑(tm + sl j) :: .bool (decide ((65536 : Int) < ↑tm + ↑(sl j))) :: vals 10 :: vals 0 :: vals 1 :: vals 2 :: vals 3 :: vals 4 :: vals 5 :: vals 6 :: vals 7 :: vals 8 :: vals 9 :: vals 11 :: vals 12 :: undef :: undef :: undef :: undef :: undef :: undef :: undef :: undef :: []).toArray, defers := [] } w0
                simp only [g0, g1, g2, g3, g4, g5, g7, g12, g14]
                clear ht hF KF KP IV
                obtain ⟨gm, e13, h13⟩ := g13
                have GM := Lib.hid h13
                have BX := Lib.hid hI
                rw [e13]
                clear hI hall h13 e13 g6 g8 g9 g10 g11
                go_wp2_with (first
                  | (go_at_call 18; (with_reducible refine (num_any _ _).mono ?_); rintro e w6 ⟨rfl, rfl⟩)
                  | (go_at_call 19; (with_reducible refine (SS.out _ _ (srcR_below GL.out (Nat.le_refl _) BX.out) GM.out).mono ?_); rintro e w7 ⟨rfl, hb⟩; have B7 := Lib.hid (B3.out.trans ((BX.out.trans (hb.mono BX.out.size)).mono B3.out.size)); clear hb))
                go_ret
                exact ⟨rfl, B7.out⟩
end Go.Proofs.Ytiglakhfkgeefaa
