/-
What is proved here: Stays, by a contract: of a lent tree that is as it was it answers true.
-/
import Derived.Test.YtjagddhkoacipaaLe1M
import Derived.Test.YtjagddhkoacipaaMa12
set_option linter.unusedSimpArgs false
set_option linter.unusedVariables false
namespace Go.Proofs.Ytjagddhkoacipaa
open Go.Pth Go.Tre Go.RowKit Go.Word Go.Shelf
set_option maxRecDepth 100000 in
set_option maxHeartbeats 8000000 in
theorem stays_any (NA FA MA GA : Option Addr) (nc fc mc gc : Nat) (ns : List Nd) (fs : List Fl) (w : World) (hL : LentAt w NA nc FA fc ns fs) (hM : NodesAt w MA ns) (hG : FilesAt w GA fs) (h1 : ns.length ≤ 1000) (h2 : fs.length ≤ 1000) (h3 : ∀ x ∈ fs, x.data.length ≤ 100000) :
    Calls Try.prog 21 #[.agg #[.slice NA ns.length nc, .slice FA fs.length fc], .agg #[.slice MA ns.length mc, .slice GA fs.length gc]] w fun e w' => e = .returned (.bool true) ∧ Below w.heap.size w w' := by
  have L1 := lies_alloc (lies_new w 25 #[.slice NA ns.length nc, .slice FA fs.length fc]) (.cells #[.slice MA ns.length mc, .slice GA fs.length gc] 25)
  have L2 := lies_new (w.alloc (.cells #[.slice NA ns.length nc, .slice FA fs.length fc] 25)) 25 #[.slice MA ns.length mc, .slice GA fs.length gc]
  rw [World.size_alloc] at L2
  have hB : Below w.heap.size w ((w.alloc (.cells #[.slice NA ns.length nc, .slice FA fs.length fc] 25)).alloc (.cells #[.slice MA ns.length mc, .slice GA fs.length gc] 25)) := ((Below.refl _ _).alloc (Nat.le_refl _) _).alloc (by simp) _
  have hL2 := lent_below hL hB
  have hM2 := nodesAt_below hM hB
  have hG2 := filesAt_below hG hB
  have KE0 := exact_any NA FA MA GA nc fc mc gc ns ns fs fs _ (lent_nodes hL2) (lent_files hL2) hM2 hG2 (by omega) (by omega)
  rw [show exactB ns fs ns fs = true from by unfold exactB; simp] at KE0
  have KE := Lib.hid KE0
  have HL := Lib.hid hL2
  have HG := Lib.hid hG2
  have H3 := Lib.hid h3
  clear hL hM hG hL2 hM2 hG2 h3 KE0
  have x0 := lies_cell L1 0
  have x1 := lies_cell L1 1
  have y0 := lies_cell L2 0
  have y1 := lies_cell L2 1
  simp only [List.getElem?_toArray, List.getElem?_cons_zero, List.getElem?_cons_succ] at x0 x1 y0 y1
  have LX := Lib.hid L1
  have LY := Lib.hid L2
  have HB := Lib.hid hB
  clear L1 L2 hB
  obtain ⟨n, hne⟩ : ∃ n, n = ns.length := ⟨_, rfl⟩
  obtain ⟨m, hme⟩ : ∃ m, m = fs.length := ⟨_, rfl⟩
  rw [← hne] at h1
  rw [← hme] at h2
  rw [← hne, ← hme] at x0 x1 y0 y1 LX LY HB KE HL HG
  rw [← hne, ← hme]
  have NE := Lib.hid hne
  have ME := Lib.hid hme
  clear hne hme
  go_enter Try.func21, Try.ntmps21
  go_upto_region 1 with (fail)
  generalize ((w.alloc (.cells #[.slice NA n nc, .slice FA m fc] 25)).alloc (.cells #[.slice MA n mc, .slice GA m gc] 25)) = X at *
  have after : ∀ W, Below X.heap.size X W → Hid (W.cell? ⟨w.heap.size, 0, none⟩ = some (.slice NA n nc) ∧ W.cell? ⟨w.heap.size, 1, none⟩ = some (.slice FA m fc) ∧ W.cell? ⟨w.heap.size + 1, 0, none⟩ = some (.slice MA n mc) ∧ W.cell? ⟨w.heap.size + 1, 1, none⟩ = some (.slice GA m gc)) := fun W hb =>
    Lib.hid ⟨(hb.cell (p := ⟨w.heap.size, 0, none⟩) (lies_lt LX.out)).trans x0, (hb.cell (p := ⟨w.heap.size, 1, none⟩) (lies_lt LX.out)).trans x1, (hb.cell (p := ⟨w.heap.size + 1, 0, none⟩) (lies_lt LY.out)).trans y0, (hb.cell (p := ⟨w.heap.size + 1, 1, none⟩) (lies_lt LY.out)).trans y1⟩
  go_upto_region 2 with (go_at_call 19; (with_reducible refine KE.out.mono ?_); rintro e w1 ⟨rfl, hb⟩; have B1 := Lib.hid hb; clear hb)
  obtain ⟨q0, q1, q2, q3⟩ := (after _ B1.out).out
  have hl1 := lent_below HL.out B1.out
  have hg1 := filesAt_below HG.out B1.out
  clear x0 x1 y0 y1 KE HL HG
  obtain ⟨hn1, hn2, hm2, g, rfl, hgs, hm3, hd⟩ := hl1
  rw [← NE.out] at hn2
  rw [← ME.out] at hm2 hm3
  obtain ⟨b, o, eA, hbl, d1, d2, d3⟩ := hn1 n (by have := NE.out; simp; omega)
  subst eA
  have en : (ns ++ [endN])[n]'(by have := NE.out; simp; omega) = endN := by
    rw [List.getElem_append_right (by have := NE.out; omega)]
    simp
  rw [en] at d2
  have d2 : w1.cell? ⟨b, o + n * 3 + 1, none⟩ = some (.int .i64 (-71)) := d2
  have HD := Lib.hid hd
  have HG1 := Lib.hid hg1
  have hcn : ∀ W : World, (Instr.slice 22 (.slice (some ⟨b, o, none⟩) n nc) none (some (.int .i64 ((n : Int) + 1))) none).run Try.prog W = .ok (.slice (some ⟨b, o, none⟩) (n + 1) nc) W := fun W => cut_to (some ⟨b, o, none⟩) n nc (n + 1) (by omega) W
  have hcf : ∀ W : World, (Instr.slice 23 (.slice (some ⟨g, 0, none⟩) m fc) none (some (.int .i64 ((m : Int) + 1))) none).run Try.prog W = .ok (.slice (some ⟨g, 0, none⟩) (m + 1) fc) W := fun W => cutf_to (some ⟨g, 0, none⟩) m fc (m + 1) (by omega) W
  have r71 : ((-71 : Int) != -71) = false := by decide
  have r72 : ((-72 : Int) != -72) = false := by decide
  have ln : (n : Int) < (n : Int) + 1 := by omega
  have lm : (m : Int) < (m : Int) + 1 := by omega
  clear hn1 d1 d3 en hd hg1 hgs hbl
  go_upto_region 6 with (fail)
  clear hcn hcf d2 hm3
  go_wp2
  go_loopw [8] (fun v8 wr => ∃ i : Nat, i ≤ m ∧ v8 = .int .i64 (i : Int) ∧ wr = w1) (fun v8 _ => m - (intOf v8).toNat)
  case atStart => exact ⟨0, Nat.zero_le _, rfl, rfl⟩
  case round =>
    obtain ⟨i, hi, rfl, rfl⟩ := hrel
    by_cases hlt : i < m
    · have li : (i : Int) < (m : Int) := by omega
      have lf : i < fs.length := by have := ME.out; omega
      obtain ⟨DA, dc, c1, c2, c3, c4⟩ := HD.out i lf
      obtain ⟨b2, o2, DB, db, eG, hl2, e1, e2, e3⟩ := HG1.out i lf
      subst eG
      have dl := H3.out fs[i] (List.getElem_mem _)
      obtain ⟨b3, o3, eD, hl3, k1⟩ := c4 fs[i].data.length (by simp)
      subst eD
      have ek : (fs[i].data ++ [167])[fs[i].data.length]'(by simp) = 167 := by simp
      rw [ek] at k1
      generalize fs[i] = x at *
      obtain ⟨md, d⟩ := x
      have c2 : wr.cell? ⟨g, i * 2 + 1, none⟩ = some (.slice (some ⟨b3, o3, none⟩) d.length dc) := c2
      have e2 : wr.cell? ⟨b2, o2 + i * 2 + 1, none⟩ = some (.slice DB d.length db) := e2
      have k1 : wr.cell? ⟨b3, o3 + d.length, none⟩ = some (.int .u8 167) := k1
      have dl : d.length ≤ 100000 := dl
      have c3 : d.length + 1 ≤ dc := c3
      clear ek c1 c4 e1 e3 hl2 hl3
      generalize d.length = k at *
      have hcb : ∀ W : World, (Instr.slice 37 (.slice (some ⟨b3, o3, none⟩) k dc) none (some (.int .i64 ((k : Int) + 1))) none).run Try.prog W = .ok (.slice (some ⟨b3, o3, none⟩) (k + 1) dc) W := fun W => cutb_to (some ⟨b3, o3, none⟩) k dc (k + 1) (by omega) W
      have lk : (k : Int) < (k : Int) + 1 := by omega
      have r167 : ((167 : Int) != 167) = false := by decide
      go_wp2
      go_roundw
      case rel => first | exact ⟨i + 1, by omega, by go_num, trivial⟩ | exact ⟨i + 1, by omega, by go_num, rfl⟩
      case measure => first | (simp [intOf]; done) | (simp [intOf]; omega)
    · have li : ¬ (i : Int) < (m : Int) := by omega
      go_wp2
      go_ret
      exact ⟨rfl, HB.out.trans (B1.out.mono HB.out.size)⟩
end Go.Proofs.Ytjagddhkoacipaa
