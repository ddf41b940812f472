/-
What is proved here: Canon, by a contract.
-/
import Derived.Test.YtjagddhkoacipaaSt2M
import Derived.Laws.ResultCell
set_option linter.unusedSimpArgs false
set_option linter.unusedVariables false
namespace Go.Tre
open Go.Pth Go.Op
theorem setN_path {m : Nat} {ms : List Nd} {x : Nd} (h : x ∈ setN m ms) : ∃ y ∈ ms, y.path = x.path := by
  have h1 : x.path ∈ (setN m ms).map (·.path) := List.mem_map.2 ⟨x, h, rfl⟩
  unfold setN at h1
  rw [setA_path] at h1
  obtain ⟨y, hy, e⟩ := List.mem_map.1 h1
  exact ⟨y, hy, e⟩
theorem tooB_no {n : Nat} {fs : List Fl} (h : tooB n fs = false) : n ≤ 256 ∧ fs.length ≤ 256 ∧ ∀ x ∈ fs, x.data.length ≤ 8192 := by
  unfold tooB anyGreat at h
  simp only [Bool.or_eq_false_iff, decide_eq_false_iff_not, List.any_eq_false, decide_eq_true_eq] at h
  obtain ⟨h1, h2, h3⟩ := h
  exact ⟨by omega, by omega, fun x hx => by have := h3 x hx; omega⟩
end Go.Tre
namespace Go.Proofs.Ytjagddhkoacipaa
open Go.Pth Go.Tre Go.RowKit Go.Word Go.Shelf
theorem results_row_tmp {P : Program} {fn : Func} {p u : Tmp} {ty : TypeId} (h : fn.results = #[.cell p ty, .tmp u]) (tmps : Array Value) (w : World) (g : Nat) (t : TypeId) (cs : Array Value) (fr : Nat × Nat) (d : TypeDesc)
    (hp : tmps.getD p undef = .pointer (some ⟨g, 0, none⟩)) (v : Value) (hv : tmps.getD u undef = v) (hg : w.heap[g]? = some (.cells cs t fr))
    (hu : P.underlying ty = some d) (hd : (match d with | .struct _ | .array _ _ => true | _ => false) = true) (hi : (P.info? ty).map (·.size) = some cs.size) :
    (results fn tmps).run P w = .ok (.tuple #[.agg cs, v]) w := by
  rw [results_cell_tmp h, hp, hv]
  simp [asAddr, run_loadVar_row w g t ty cs fr d hg hu hd hi]
set_option maxRecDepth 100000 in
set_option maxHeartbeats 8000000 in
theorem canon_any (NA FA : Option Addr) (nc fc : Nat) (ns : List Nd) (fs : List Fl) (w : World) (hN : NodesAt w NA ns) (hF : FilesAt w FA fs) (hp : ∀ x ∈ ns, x.path.length ≤ 100000) :
    Calls Try.prog 16 #[.agg #[.slice NA ns.length nc, .slice FA fs.length fc]] w fun e w' => (∃ vN vF D, e = .returned (.tuple #[.agg #[vN, vF], .int .i64 (canonE ns fs)]) ∧ (canonE ns fs = 0 → CopyAt w' w.heap.size vN vF D (canonN ns fs) (canonF ns fs)) ∧ (canonE ns fs ≠ 0 → vN = .slice none 0 0 ∧ vF = .slice none 0 0)) ∧ Below w.heap.size w w' := by
  have L := lies_alloc (lies_new w 25 #[.slice NA ns.length nc, .slice FA fs.length fc]) (.cells #[.slice none 0 0, .slice none 0 0] 25)
  have hB : Below w.heap.size w ((w.alloc (.cells #[.slice NA ns.length nc, .slice FA fs.length fc] 25)).alloc (.cells #[.slice none 0 0, .slice none 0 0] 25)) := ((Below.refl _ _).alloc (Nat.le_refl _) _).alloc (by simp) _
  have L2 := lies_new (w.alloc (.cells #[.slice NA ns.length nc, .slice FA fs.length fc] 25)) 25 #[.slice none 0 0, .slice none 0 0]
  rw [World.size_alloc] at L2
  have HN := Lib.hid (nodesAt_below hN hB)
  have HF := Lib.hid (filesAt_below hF hB)
  have HP := Lib.hid hp
  clear hN hF hp
  have x0 := lies_cell L 0
  have x1 := lies_cell L 1
  simp only [List.getElem?_toArray, List.getElem?_cons_zero, List.getElem?_cons_succ] at x0 x1
  have HB := Lib.hid hB
  have LX := Lib.hid L
  have LR := Lib.hid L2
  clear L L2 hB
  obtain ⟨n, hne⟩ : ∃ n, n = ns.length := ⟨_, rfl⟩
  obtain ⟨m, hme⟩ : ∃ m, m = fs.length := ⟨_, rfl⟩
  rw [← hne, ← hme] at x0 x1 LX HB HN HF LR
  rw [← hne, ← hme]
  have NE := Lib.hid hne
  have ME := Lib.hid hme
  clear hne hme
  obtain ⟨z, hz0⟩ : ∃ z, z = canonE ns fs := ⟨_, rfl⟩
  rw [← hz0]
  have HZ := Lib.hid hz0
  clear hz0
  go_enter Try.func16, Try.ntmps16
  go_upto_region 1 with (fail)
  generalize (w.alloc (.cells #[.slice NA n nc, .slice FA m fc] 25)).alloc (.cells #[.slice none 0 0, .slice none 0 0] 25) = X at *
  have KT := fun (W : World) (hb : Below X.heap.size X W) => Lib.hid (tooGreat_any NA FA n nc fc fs W (filesAt_below HF.out hb))
  rw [← ME.out] at KT
  have after : ∀ W, Below X.heap.size X W → Hid (W.cell? ⟨w.heap.size, 0, none⟩ = some (.slice NA n nc) ∧ W.cell? ⟨w.heap.size, 1, none⟩ = some (.slice FA m fc)) := fun W hb =>
    Lib.hid ⟨(hb.cell (p := ⟨w.heap.size, 0, none⟩) (lies_lt LX.out)).trans x0, (hb.cell (p := ⟨w.heap.size, 1, none⟩) (lies_lt LX.out)).trans x1⟩
  by_cases ht : tooB n fs = true
  · have hE : canonE ns fs = 31 := by unfold canonE; rw [← NE.out, if_pos ht]
    obtain rfl : z = 31 := HZ.out.trans hE
    rw [ht] at KT
    clear ht hE after HZ
    go_upto_region 2 with (go_at_call 40; (with_reducible refine (KT _ (Below.refl _ _)).out.mono ?_); rintro e w1 ⟨rfl, hb⟩; have B1 := Lib.hid hb; clear hb)
    have LR1 := Lib.hid (lies_below LR.out B1.out (lies_lt LR.out))
    have BZ := Lib.hid (below_setRow (HB.out.trans (B1.out.mono HB.out.size)) (g := w.heap.size + 1) (by omega) #[.slice none 0 0, .slice none 0 0])
    clear x0 x1 KT
    go_wp2_with (refine wpList_store_row rfl 25 _ _ rfl (w.heap.size + 1) #[.slice none 0 0, .slice none 0 0] rfl rfl 25 _ LR1.out (by kernel_rfl) rfl (by simp [Value.oneCell']) ?_)
    refine bodyPost_ret (results_row_tmp rfl _ _ (w.heap.size + 1) 25 #[.slice none 0 0, .slice none 0 0] (0, 0) _ rfl (.int .i64 31) rfl (lies_setRow LR1.out _) Try.underlying25 rfl (by kernel_rfl)) rfl ?_
    exact ⟨⟨_, _, fun _ => undef, rfl, fun h => absurd h (by decide), fun _ => ⟨rfl, rfl⟩⟩, BZ.out⟩
  · have ht : tooB n fs = false := by simpa using ht
    rw [ht] at KT
    have hb3 := tooB_no ht
    have TB := Lib.hid (show tooB ns.length fs = false by rw [← NE.out]; exact ht)
    have KC := fun (W : World) (hb : Below X.heap.size X W) => Lib.hid (clone_any NA FA nc fc ns fs W (nodesAt_below HN.out hb) (filesAt_below HF.out hb) (by have := NE.out; omega) (by omega) (fun x hx => by have := hb3.2.2 x hx; omega))
    rw [← NE.out, ← ME.out] at KC
    have SZ := Lib.hid (show ns.length ≤ 1000 ∧ fs.length ≤ 1000 by have := NE.out; omega)
    clear ht hb3
    go_upto_region 3 with (go_at_call 40; (with_reducible refine (KT _ (Below.refl _ _)).out.mono ?_); rintro e w1 ⟨rfl, hb⟩; have B1 := Lib.hid hb; clear hb; obtain ⟨y0, y1⟩ := (after _ B1.out).out)
    clear KT
    go_upto_region 4 with (go_at_call 41; (with_reducible refine (KC _ B1.out).out.mono ?_); rintro e w2 ⟨vN, vF, D, rfl, hC, hb⟩; have B2 := Lib.hid (B1.out.trans (hb.mono B1.out.size)); have C2 := Lib.hid (copy_mono hC B1.out.size); clear hb hC; obtain ⟨A2, D2, rfl⟩ := own_slice C2.out.nodes; obtain ⟨A3, D3, rfl⟩ := own_slice C2.out.files; rw [← NE.out, ← ME.out])
    have C2 : Hid (CopyAt w2 X.heap.size (.slice A2 n D2) (.slice A3 m D3) D ns fs) := by
      have := C2.out
      rw [← NE.out, ← ME.out] at this
      exact Lib.hid this
    have bT : Below w2.heap.size w2 (w2.alloc (.cells #[.slice A2 n D2, .slice A3 m D3] 25)) := (Below.refl _ _).alloc (Nat.le_refl _) _
    have KS := Lib.hid (settle_any w2.heap.size X.heap.size (.slice A2 n D2) (.slice A3 m D3) D ns fs (w2.alloc (.cells #[.slice A2 n D2, .slice A3 m D3] 25)) (lies_new w2 25 _) (copy_below C2.out bT) B2.out.size SZ.out.1 SZ.out.2)
    have B3 := Lib.hid (B2.out.trans (bT.mono B2.out.size))
    clear bT C2 KC y0 y1
    generalize w2.alloc (.cells #[.slice A2 n D2, .slice A3 m D3] 25) = W3 at *
    generalize w2.heap.size = T at *
    go_upto_region 5 with (go_at_call 42; (with_reducible refine KS.out.mono ?_); rintro e w4 ⟨rfl, ms, vF4, D4, hp, ho, hl, hc, hb⟩; have B4 := Lib.hid (B3.out.trans hb); have L4 := Lib.hid hl; have C4 := Lib.hid hc; have HPM := Lib.hid hp; have HOM := Lib.hid ho; clear hb hl hc hp ho)
    have TBE := canon_code HPM.out HOM.out TB.out
    have PTH : ∀ x ∈ setN fs.length ms, x.path.length ≤ 100000 := fun x hx => by
      obtain ⟨y, hy, e⟩ := setN_path hx
      rw [← e]
      exact HP.out y (HPM.out.subset hy)
    have lenN : (setN fs.length ms).length = n := by rw [setN_len, HPM.out.length_eq, ← NE.out]
    obtain ⟨NA4, nc4, e4, hN4⟩ := copy_nodes C4.out
    obtain ⟨A5, D5, e5, hF4⟩ := copy_files C4.out
    rw [lenN] at e4
    obtain ⟨rfl, rfl⟩ : A2 = NA4 ∧ D2 = nc4 := by injection e4 with h1 h2 h3; exact ⟨h1, h3⟩
    subst e5
    have KLo := loose_any A2 A5 D2 D5 (setN fs.length ms) (setF ms fs) w4 hN4 hF4 PTH
    rw [lenN, TBE.1, ← HZ.out] at KLo
    have KK := Lib.hid KLo
    have EQ := Lib.hid (show canonE ns fs = 0 → _ from TBE.2)
    obtain ⟨k5, hk5⟩ : ∃ k5, k5 = (setF ms fs).length := ⟨_, rfl⟩
    rw [← hk5] at KK L4 C4
    have R4 := Lib.hid (lies_range L4.out)
    clear TBE PTH lenN hN4 hF4 KLo hk5 KS HPM HOM after
    go_upto_region 6 with (first
      | (refine wpList_load_mid rfl 25 _ rfl T 0 rfl [.slice A2 n D2, .slice A5 k5 D5] _ R4.out Try.underlying25 rfl (by kernel_rfl) ?_)
      | (go_at_call 43; (with_reducible refine KK.out.mono ?_); rintro e w5 ⟨rfl, hb⟩; have B5 := Lib.hid (B4.out.trans (hb.mono B4.out.size)); have L5 := Lib.hid (lies_below L4.out hb (lies_lt L4.out)); have C5 := Lib.hid (copy_below C4.out hb); clear hb))
    have R5 := Lib.hid (lies_range L5.out)
    have LR5 := Lib.hid (lies_below LR.out B5.out (lies_lt LR.out))
    clear L4 C4 R4 KK
    by_cases hz : z = 0
    · obtain ⟨eN, eF⟩ := EQ.out (HZ.out.symm.trans hz)
      have CZ := C5.out
      rw [eN, eF] at CZ
      have CF := Lib.hid (copy_mono (copy_kept CZ (grown_setRow w5 (w.heap.size + 1) #[.slice A2 n D2, .slice A5 k5 D5]) (fun r e => by injection e with e; subst e; exact ⟨_, 25, LR5.out, by decide, by decide, by decide⟩)) HB.out.size)
      have BZ := Lib.hid (below_setRow (HB.out.trans (B5.out.mono HB.out.size)) (g := w.heap.size + 1) (by omega) #[.slice A2 n D2, .slice A5 k5 D5])
      subst hz
      clear CZ eN eF EQ C5 x0 x1
      go_wp2_with (first
        | (refine wpList_load_mid rfl 25 _ rfl T 0 rfl [.slice A2 n D2, .slice A5 k5 D5] _ R5.out Try.underlying25 rfl (by kernel_rfl) ?_)
        | (refine wpList_store_row rfl 25 _ _ rfl (w.heap.size + 1) #[.slice A2 n D2, .slice A5 k5 D5] rfl rfl 25 _ LR5.out (by kernel_rfl) rfl (by simp [Value.oneCell']) ?_))
      refine bodyPost_ret (results_row_tmp rfl _ _ (w.heap.size + 1) 25 #[.slice A2 n D2, .slice A5 k5 D5] (0, 0) _ rfl (.int .i64 0) rfl (lies_setRow LR5.out _) Try.underlying25 rfl (by kernel_rfl)) rfl ?_
      exact ⟨⟨_, _, rfl, _, CF.out⟩, BZ.out⟩
    · have zn : (z != 0) = true := by simpa using hz
      have zb : (z == 0) = false := by simpa using hz
      have BZ := Lib.hid (below_setRow (HB.out.trans (B5.out.mono HB.out.size)) (g := w.heap.size + 1) (by omega) #[.slice none 0 0, .slice none 0 0])
      clear EQ C5 x0 x1
      go_wp2_with (refine wpList_store_row rfl 25 _ _ rfl (w.heap.size + 1) #[.slice none 0 0, .slice none 0 0] rfl rfl 25 _ LR5.out (by kernel_rfl) rfl (by simp [Value.oneCell']) ?_)
      refine bodyPost_ret (results_row_tmp rfl _ _ (w.heap.size + 1) 25 #[.slice none 0 0, .slice none 0 0] (0, 0) _ rfl (.int .i64 z) rfl (lies_setRow LR5.out _) Try.underlying25 rfl (by kernel_rfl)) rfl ?_
      exact ⟨⟨_, _, fun _ => undef, rfl, fun h => absurd h hz, fun _ => ⟨rfl, rfl⟩⟩, BZ.out⟩
end Go.Proofs.Ytjagddhkoacipaa
