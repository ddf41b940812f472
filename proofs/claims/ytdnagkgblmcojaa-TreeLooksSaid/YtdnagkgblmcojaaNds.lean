/-
What is proved here: the function value that goes over a loose tree's nodes, for every loop body that keeps what lay below but one block, and the maps.
-/
import Derived.Test.YtdnagkgblmcojaaWgn
set_option linter.unusedSimpArgs false
namespace Go.Tre
open Go.Pth
abbrev NdK := { x : Nat × Nd // x.1 ≤ 256 ∧ x.2.path.length ≤ 100000 }
def ndK (i : Nat) (x : Nd) : NdK := ⟨(min i 256, ⟨x.path.take 100000, x.file, x.mode⟩), by show min i 256 ≤ 256; omega, List.length_take_le _ _⟩
def nodesTo (ns : List Nd) (i : Nat) : List NdK := (List.range i).map fun j => ndK j (ns.getD j ⟨[], 0, 0⟩)
def nodesL (ns : List Nd) : List NdK := nodesTo ns ns.length
def seqL (ns : List Nd) (fs : List Fl) : List NdK := if looseE ns fs = 0 then nodesL ns else []
theorem nodesTo_succ (ns : List Nd) (i : Nat) (h : i < ns.length) : nodesTo ns (i + 1) = nodesTo ns i ++ [ndK i ns[i]] := by
  unfold nodesTo
  rw [List.range_succ, List.map_append]
  simp [List.getD_eq_getElem?_getD, List.getElem?_eq_getElem h]
theorem nodesTo_pre (ns : List Nd) (i : Nat) (h : i ≤ ns.length) : nodesTo ns i <+: nodesL ns := by
  unfold nodesL nodesTo
  refine ⟨(List.range' i (ns.length - i)).map fun j => ndK j (ns.getD j ⟨[], 0, 0⟩), ?_⟩
  rw [← List.map_append]
  congr 1
  rw [List.range_eq_range', List.range_eq_range']
  have := @List.range'_append 0 i (ns.length - i) 1
  simpa [show i + (ns.length - i) = ns.length by omega] using this
theorem nodesTo_len (ns : List Nd) (i : Nat) : (nodesTo ns i).length = i := by simp [nodesTo]
theorem ndK_val (i : Nat) (x : Nd) (h1 : i ≤ 256) (h2 : x.path.length ≤ 100000) : (ndK i x).1 = (i, x) := by
  unfold ndK
  show (min i 256, (⟨x.path.take 100000, x.file, x.mode⟩ : Nd)) = (i, x)
  rw [List.take_of_length_le h2, Nat.min_eq_left h1]
end Go.Tre
namespace Go.Proofs.Ytdnagkgblmcojaa
open Go.Pth Go.Tre Go.RowKit Go.Word Go.Shelf
attribute [local go_sem] Oper.semAt_some

def encN (k : NdK) : Array Value := #[.int .i64 (k.1.1 : Int), .agg #[St k.1.2.path, .int .i64 k.1.2.file, .int .i64 k.1.2.mode]]
set_option maxRecDepth 100000 in
set_option maxHeartbeats 4000000 in
theorem nodes_stops (nn : Nat) (hnn : 1 ≤ nn) (ns : List Nd) (fs : List Fl) (hp : ∀ x ∈ ns, x.path.length ≤ 100000) (Bs m WB : Nat) (NA FA : Option Addr) (nc fc : Nat) (w : World) (hBs : Bs < m) (hm : m ≤ w.heap.size)
    (hb0 : w.cell? ⟨Bs, 0, none⟩ = some (.slice NA ns.length nc)) (hb1 : w.cell? ⟨Bs, 1, none⟩ = some (.slice FA fs.length fc)) (hN : NodesIn w m WB NA ns) (hF : FilesAt w FA fs) :
    SeqStopsK .wide nn Try.prog 50 #[.pointer (some ⟨Bs, 0, none⟩)] encN (KW m WB) (fun ys => ys = seqL ns fs) (fun pre => pre <+: seqL ns fs) (seqL ns fs).length w := fun lp J Jx W hW hJ _ hY h0 => by
  have cB0 := (hW.cell (p := ⟨Bs, 0, none⟩) (by show Bs < _; omega)).trans hb0
  have cB1 := (hW.cell (p := ⟨Bs, 1, none⟩) (by show Bs < _; omega)).trans hb1
  have hmW : m ≤ W.heap.size := Nat.le_trans hm hW.size
  have hNA : NodesAt w NA ns := fun i hi => by
    obtain ⟨b, o, e, h1, h2, d⟩ := hN i hi
    exact ⟨b, o, e, Nat.lt_of_lt_of_le h1 hm, d⟩
  have KL := Lib.hid (loose_any NA FA nc fc ns fs W (nodesAt_below hNA hW) (filesAt_below hF hW) hp)
  obtain ⟨n, hne⟩ : ∃ n, n = ns.length := ⟨_, rfl⟩
  have hls := @loose_small ns fs
  rw [← hne] at cB0 KL
  have NE := Lib.hid hne
  have HP := Lib.hid hp
  have HN := Lib.hid (show NodesIn W m WB NA ns from fun i hi => by
    obtain ⟨b, o, e, h1, h2, d1, d2, d3⟩ := hN i hi
    have hbw : b < w.heap.size := Nat.lt_of_lt_of_le h1 hm
    exact ⟨b, o, e, h1, h2, (hW.cell (p := ⟨b, o + i * 3, none⟩) hbw).trans d1, (hW.cell (p := ⟨b, o + i * 3 + 1, none⟩) hbw).trans d2, (hW.cell (p := ⟨b, o + i * 3 + 2, none⟩) hbw).trans d3⟩)
  generalize fs.length = f at *
  clear hb0 hb1 hne hp hN hF hNA
  refine callsIn_of_wp Try.func50 rfl trivial ?_ rfl
  simp only [Try.ntmps50, List.size_toArray, List.length_cons, List.length_nil, Nat.reduceAdd, Nat.reduceSub, Array.replicate_succ, Array.replicate_zero, List.push_toArray, List.append_toArray, List.nil_append, List.cons_append]
  by_cases hz : looseE ns fs = 0
  · have hn := (hls hz).1
    rw [hz] at KL
    have hS : seqL ns fs = nodesL ns := by unfold seqL; rw [if_pos hz]
    rw [hS] at hY ⊢
    clear hls hz hS
    have HN6 := Lib.hid hn
    have hn6 : n ≤ 256 := by have := NE.out; omega
    clear hn
    gi_wp2_with (refine ⟨trivial, ?_⟩; gi_at_call 22; refine (callsIn_wide.2 KL.out).mono ?_; rintro e w1 ⟨rfl, hb1⟩; have H1 := Lib.hid hb1; have cB2 := (hb1.cell (p := ⟨Bs, 0, none⟩) (by show Bs < _; omega)).trans cB0; have cB3 := (hb1.cell (p := ⟨Bs, 1, none⟩) (by show Bs < _; omega)).trans cB1; clear hb1)
    have H2 := Lib.hid (show ∀ k, k < m → k ≠ WB → w1.heap[k]? = W.heap[k]? from fun k h1 h2 => H1.out.block k (by omega))
    have J1 := Lib.hid (hJ _ _ _ none h0 (grown_of_below H1.out) (fun _ e => by cases e))
    have Z1 := Lib.hid H1.out.size
    clear cB0 cB1 cB2 cB3 h0 hW
    gi_loopw [11] (fun v11 wr => ∃ j : Nat, j ≤ n ∧ v11 = .int .i64 (j : Int) ∧ J (nodesTo ns j) wr ∧ (∀ k, k < m → k ≠ WB → wr.heap[k]? = W.heap[k]?) ∧ W.heap.size ≤ wr.heap.size) (fun v11 _ => n - (intOf v11).toNat)
    case atStart => exact ⟨0, Nat.zero_le _, rfl, by simpa [nodesTo] using J1.out, H2.out, Z1.out⟩
    case round =>
      obtain ⟨j, hj, rfl, hJr, hK, hz⟩ := hrel
      have HJR := Lib.hid hJr
      have HK := Lib.hid hK
      have HZ := Lib.hid hz
      clear hJr hK hz
      by_cases hjl : j < n
      · have lj : (j : Int) < (n : Int) := by omega
        have lf : j < ns.length := by have := NE.out; omega
        obtain ⟨b, o, eA, hbm, hbW, e1, e2, e3⟩ := HN.out j lf
        have hpl := HP.out ns[j] (List.getElem_mem _)
        subst eA
        have d1 := (World.cell?_of_block (a := ⟨b, o + j * 3, none⟩) (HK.out b hbm hbW)).trans e1
        have d2 := (World.cell?_of_block (a := ⟨b, o + j * 3 + 1, none⟩) (HK.out b hbm hbW)).trans e2
        have d3 := (World.cell?_of_block (a := ⟨b, o + j * 3 + 2, none⟩) (HK.out b hbm hbW)).trans e3
        have FD := Lib.hid (nodesTo_succ ns j lf)
        have FV := Lib.hid (ndK_val j ns[j] (by have := HN6.out; omega) hpl)
        have FP := Lib.hid (nodesTo_pre ns (j + 1) lf)
        clear e1 e2 e3
        generalize ns[j] = x at *
        obtain ⟨p, f', md⟩ := x
        have LM := Lib.hid (node_range (p := p) d1 d2 d3)
        have LN := Lib.hid (lies_new wr 41 #[.string { data := #[] }, .int .i64 0, .int .i64 0])
        have ES := Lib.hid (setRow_alloc wr 41 #[.string { data := #[] }, .int .i64 0, .int .i64 0] #[St p, .int .i64 f', .int .i64 md])
        clear d1 d2 d3 hpl
        have x0 : (wr.alloc (.cells #[St p, .int .i64 f', .int .i64 md] 41)).cell? ⟨wr.heap.size, 0, none⟩ = some (St p) := lies_cell (lies_new wr 41 _) 0
        have x1 : (wr.alloc (.cells #[St p, .int .i64 f', .int .i64 md] 41)).cell? ⟨wr.heap.size, 1, none⟩ = some (.int .i64 f') := lies_cell (lies_new wr 41 _) 1
        have x2 : (wr.alloc (.cells #[St p, .int .i64 f', .int .i64 md] 41)).cell? ⟨wr.heap.size, 2, none⟩ = some (.int .i64 md) := lies_cell (lies_new wr 41 _) 2
        have LM2 := Lib.hid (node_range (w := wr.alloc (.cells #[St p, .int .i64 f', .int .i64 md] 41)) (b := wr.heap.size) (o := 0) (p := p) x0 x1 x2)
        have bx := Lib.hid ((Below.refl wr.heap.size wr).alloc (Nat.le_refl _) (.cells #[St p, .int .i64 f', .int .i64 md] 41))
        have JX := Lib.hid (hJ _ _ _ none HJR.out (World.grownBy_alloc wr (.cells #[St p, .int .i64 f', .int .i64 md] 41) _) (fun _ e => by cases e))
        have KX := Lib.hid (show ∀ k, k < m → k ≠ WB → (wr.alloc (.cells #[St p, .int .i64 f', .int .i64 md] 41)).heap[k]? = W.heap[k]? from fun k h1 h2 => (bx.out.block k (by have := HZ.out; omega)).trans (HK.out k h1 h2))
        have ZX := Lib.hid (show W.heap.size ≤ (wr.alloc (.cells #[St p, .int .i64 f', .int .i64 md] 41)).heap.size from Nat.le_trans HZ.out bx.out.size)
        obtain ⟨fn, tmps, assign, body, hy, hR⟩ := hY (nodesTo ns j) (ndK j ⟨p, f', md⟩) _ JX.out (by
          rw [nodesTo_len]
          show j < (nodesTo ns ns.length).length
          rw [nodesTo_len]
          exact lf)
        dsimp only [encN] at hy
        rw [FV.out] at hy
        simp only [] at hy
        clear x0 x1 x2 lf
        gi_wp2_with (first
          | (refine wpListIn_load_mid rfl 41 _ rfl b (o + j * 3) rfl [St p, .int .i64 f', .int .i64 md] _ LM.out Try.underlying41 rfl (by kernel_rfl) ?_)
          | (refine wpListIn_store_row rfl 41 _ _ rfl wr.heap.size #[St p, .int .i64 f', .int .i64 md] rfl rfl 41 _ LN.out (by kernel_rfl) rfl (by simp [Value.oneCell', St]) ?_; rw [ES.out])
          | (refine wpListIn_load_mid rfl 41 _ rfl wr.heap.size 0 rfl [St p, .int .i64 f', .int .i64 md] _ LM2.out Try.underlying41 rfl (by kernel_rfl) ?_))
        refine hR.mono ?_
        rintro e W4 (⟨rfl, hJ4, hk4⟩ | ⟨rfl, hJx4⟩)
        · have J4 := Lib.hid (show J (nodesTo ns (j + 1)) W4 by rw [FD.out]; exact hJ4)
          have KH4 := Lib.hid (show ∀ k, k < m → k ≠ WB → W4.heap[k]? = W.heap[k]? from fun k h1 h2 => (hk4.1 k h1 h2).trans (KX.out k h1 h2))
          have Z4 := Lib.hid (Nat.le_trans ZX.out hk4.2.size)
          clear hJ4 hk4
          gi_wp2
          go_roundw
          case rel => exact ⟨j + 1, by omega, by go_num, J4.out, KH4.out, Z4.out⟩
          case measure => first | (simp [intOf]; done) | (simp [intOf]; omega)
        · gi_wp2
          refine bodyPost_ret (results_none rfl _ _ _) rfl ?_
          exact ⟨⟨_, rfl⟩, .inr ⟨_, by rw [← FD.out]; exact FP.out, hJx4⟩⟩
      · have lj : ¬ (j : Int) < (n : Int) := by omega
        have HA := Lib.hid (show nodesTo ns j = nodesL ns by unfold nodesL; rw [show j = ns.length by have := NE.out; omega])
        gi_wp2
        go_end0
        exact ⟨⟨_, rfl⟩, .inl (by rw [← HA.out]; exact HJR.out)⟩
  · have hzb : (looseE ns fs != 0) = true := by simpa using hz
    have hzc : (looseE ns fs == 0) = false := by simpa using hz
    have hS : seqL ns fs = [] := by unfold seqL; rw [if_neg hz]
    rw [hS] at hY ⊢
    clear hls hS
    generalize looseE ns fs = z at *
    gi_wp2_with (refine ⟨trivial, ?_⟩; gi_at_call 22; refine (callsIn_wide.2 KL.out).mono ?_; rintro e w1 ⟨rfl, hb1⟩; have H1 := Lib.hid hb1; clear hb1)
    refine bodyPost_ret (results_none rfl _ _ _) rfl ?_
    exact ⟨⟨_, rfl⟩, .inl ⟨_, rfl, hJ _ _ _ none h0 (grown_of_below H1.out) (fun _ e => by cases e)⟩⟩
end Go.Proofs.Ytdnagkgblmcojaa
