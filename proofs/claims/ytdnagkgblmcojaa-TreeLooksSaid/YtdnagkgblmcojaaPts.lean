/-
What is proved here: tree.Names and tree.Kids, by contracts.
-/
import Derived.Test.YtdnagkgblmcojaaCls
import Derived.Test.YtdnagkgblmcojaaTxs
set_option linter.unusedSimpArgs false
namespace Go.Tre
open Go.Pth Go.Proofs.Ytdnagkgblmcojaa
/-- the paths of those that are asked for -/
def pickK (P : Nd → Bool) (l : List NdK) : List Bt := (l.filter fun x => P x.1.2).map fun x => x.1.2.path
theorem pickK_snoc (P : Nd → Bool) (l : List NdK) (x : NdK) : pickK P (l ++ [x]) = pickK P l ++ (if P x.1.2 = true then [x.1.2.path] else []) := by
  unfold pickK
  rw [List.filter_append, List.map_append]
  by_cases e : P x.1.2 = true <;> simp [e]
theorem pickK_len (P : Nd → Bool) (l : List NdK) : (pickK P l).length ≤ l.length := by
  unfold pickK
  rw [List.length_map]
  exact List.length_filter_le _ _
theorem pickK_all (P : Nd → Bool) (ns : List Nd) (fs : List Fl) (hp : ∀ x ∈ ns, x.path.length ≤ 100000) : pickK P (seqL ns fs) = if looseE ns fs = 0 then (ns.filter P).map (·.path) else [] := by
  unfold seqL
  by_cases hz : looseE ns fs = 0
  · rw [if_pos hz, if_pos hz]
    have hn := (loose_small hz).1
    have key : ∀ i, i ≤ ns.length → pickK P (nodesTo ns i) = ((ns.take i).filter P).map (·.path) := by
      intro i
      induction i with
      | zero => intro _; simp [nodesTo, pickK]
      | succ i ih =>
        intro hi
        rw [nodesTo_succ ns i hi, pickK_snoc, ih (by omega), pick_succ P ns i hi, ndK_val i ns[i] (by omega) (hp _ (List.getElem_mem hi))]
    have := key ns.length (Nat.le_refl _)
    rw [List.take_of_length_le (Nat.le_refl _)] at this
    exact this
  · rw [if_neg hz, if_neg hz]
    rfl
theorem seq_count (ns : List Nd) (fs : List Fl) : (seqL ns fs).length ≤ 256 := by
  unfold seqL
  by_cases hz : looseE ns fs = 0
  · rw [if_pos hz]
    unfold nodesL
    rw [nodesTo_len]
    exact (loose_small hz).1
  · rw [if_neg hz]
    simp
end Go.Tre
namespace Go.Proofs.Ytdnagkgblmcojaa
open Go.Pth Go.Tre Go.RowKit Go.Word Go.Shelf
attribute [local go_sem] Oper.semAt_some guard_eq guard_ne st_eql

/-- an append to a row of one's own that lies from n₁ on, stored into its box: what else lies as it lay -/
theorem appended3 {W w1 : World} {n₀ n₁ B : Nat} {t e : TypeId} {size : Nat} {v v' : Value} {k m : Nat} {xs ys : List Value} {tmp : Obj}
    (hv : Boxed W B t v) (hte : t ≠ e) (hrow : W.ownsRow n₁ e size v k xs) (hn₀ : n₀ ≤ W.heap.size) (hB : n₀ ≤ B) (h01 : n₀ ≤ n₁) (h1s : n₁ ≤ W.heap.size)
    (hown' : w1.ownsRow n₁ e size v' m ys) (hgrow : (W.alloc tmp).grownBy w1 v.ownBlock) :
    Boxed w1 B t v ∧ Boxed (w1.setCell ⟨B, 0, none⟩ v') B t v' ∧ (w1.setCell ⟨B, 0, none⟩ v').ownsRow n₁ e size v' m ys ∧ KeepsOthers W (w1.setCell ⟨B, 0, none⟩ v') ∧ Below n₀ W (w1.setCell ⟨B, 0, none⟩ v') ∧ ∀ i, i < n₁ → i ≠ B → (w1.setCell ⟨B, 0, none⟩ v').heap[i]? = W.heap[i]? := by
  have hv1 : Boxed w1 B t v := (hv.alloc tmp).kept hgrow (hv.not_row hte hrow)
  have hrow2 : ∀ j, v.ownBlock = some j → n₁ ≤ j := fun j ej => by
    rcases hrow.2 with ⟨rfl, _⟩ | ⟨g, cap, cur, rfl, hb, _, _⟩
    · simp [Value.ownBlock] at ej
    · obtain rfl : g = j := by simpa [Value.ownBlock] using ej
      exact hb
  refine ⟨hv1, hv1.set v', hown'.kept (grownBy_setCell' w1 B v') (.inr (hv1.not_row hte hown').symm), ?_, ?_, fun i hi hne => ?_⟩
  · refine ((KeepsOthers.alloc W tmp).trans (KeepsOthers.of_grownBy hgrow fun j o ej hj => ?_)).trans (KeepsOthers.setCell _ _ _)
    rcases (hrow.alloc tmp).2 with ⟨rfl, _⟩ | ⟨g, cap, cur, rfl, _, hgb, _⟩
    · simp [Value.ownBlock] at ej
    · obtain rfl : g = j := by simpa [Value.ownBlock] using ej
      rw [hgb] at hj; cases hj; rfl
  · refine (((Below.refl n₀ W).alloc hn₀ tmp).grown hgrow (by simp; omega) fun j ej => ?_).setCell (p := ⟨B, 0, none⟩) hB v'
    exact Nat.le_trans h01 (hrow2 j ej)
  · have e1 : w1.heap[i]? = (W.alloc tmp).heap[i]? := hgrow.block i (by simp; omega) (fun e => by have := hrow2 i e.symm; omega)
    have e2 : (W.alloc tmp).heap[i]? = W.heap[i]? := Below.heap_alloc W tmp i (by omega)
    rw [← e2, ← e1]
    exact heap_setCell_other w1 ⟨B, 0, none⟩ i v' hne
theorem boxed_of {W W' : World} {B : Nat} {t : TypeId} {v : Value} (e : W'.heap[B]? = W.heap[B]?) (h : Boxed W B t v) : Boxed W' B t v := e.trans h
theorem boxed_below {W w1 : World} {B : Nat} {t : TypeId} {v : Value} (h : Boxed W B t v) (hb : Below W.heap.size W w1) : Boxed w1 B t v :=
  boxed_own (β := Unit) B t (fun _ => v) () W w1 none h (grown_of_below hb) (fun r e => by cases e)
theorem keeps_below {W w1 : World} (hb : Below W.heap.size W w1) : KeepsOthers W w1 := KeepsOthers.of_grownBy (grown_of_below hb) (fun j o e => by cases e)
set_option maxRecDepth 100000 in
set_option maxHeartbeats 4000000 in
theorem askNames_in (n : Nat) (hn : 6 ≤ n) (NA FA : Option Addr) (nc fc : Nat) (ns : List Nd) (fs : List Fl) (q : Int) (C : Nat) (w : World) (hN : NodesAt w NA ns) (hF : FilesAt w FA fs) (hp : ∀ x ∈ ns, x.path.length ≤ 100000) (hC : w.cell? ⟨C, 0, none⟩ = some (.int .i64 q)) :
    CallsIn .wide n Try.prog 26 #[.agg #[.slice NA ns.length nc, .slice FA fs.length fc], .func (.func 27) #[] #[.pointer (some ⟨C, 0, none⟩)]] w fun e W' => ∃ v, e = .returned v ∧ W'.ownsRow w.heap.size 9 1 v (pickK (fun x => decide (x.file = q ∧ x.file ≠ -1)) (seqL ns fs)).length ((pickK (fun x => decide (x.file = q ∧ x.file ≠ -1)) (seqL ns fs)).map St) ∧ Below w.heap.size w W' := by
  have h1 : 1 ≤ n := by omega
  have hn3 : 1 ≤ n - 1 - 1 := by omega
  have SC := Lib.hid (seq_count ns fs)
  obtain ⟨i0, hi, hz0, hz1, hz2⟩ := info_parts str_info
  obtain ⟨P, hP⟩ : ∃ P : Nd → Bool, P = fun x => decide (x.file = q ∧ x.file ≠ -1) := ⟨_, rfl⟩
  rw [← hP]
  have HPE := Lib.hid hP
  clear hP
  refine callsIn_of_wp_marks Try.func26 rfl trivial ?_ rfl
  simp only [Try.ntmps26, List.size_toArray, List.length_cons, List.length_nil, Nat.reduceAdd, Nat.reduceSub, Array.replicate_succ, Array.replicate_zero, List.push_toArray, List.append_toArray, List.nil_append, List.cons_append]
  have x0 : (w.alloc (.cells #[.slice NA ns.length nc, .slice FA fs.length fc] 25)).cell? ⟨w.heap.size, 0, none⟩ = some (.slice NA ns.length nc) := lies_cell (lies_new w 25 _) 0
  have x1 : (w.alloc (.cells #[.slice NA ns.length nc, .slice FA fs.length fc] 25)).cell? ⟨w.heap.size, 1, none⟩ = some (.slice FA fs.length fc) := lies_cell (lies_new w 25 _) 1
  gi_wp2_with (refine ⟨trivial, ?_⟩; gi_at_call 25; refine (nodes_in (n - 1) _ _ _).mono ?_; rintro e w' ⟨rfl, rfl⟩)
  have bF := Boxed.new (w.alloc (.cells #[.slice NA ns.length nc, .slice FA fs.length fc] 25)) 54 (.func (.func 27) #[] #[.pointer (some ⟨C, 0, none⟩)])
  have bO := Boxed.new ((w.alloc (.cells #[.slice NA ns.length nc, .slice FA fs.length fc] 25)).alloc (.cells #[.func (.func 27) #[] #[.pointer (some ⟨C, 0, none⟩)]] 54)) 29 (.slice none 0 0)
  have lB := lies_new (((w.alloc (.cells #[.slice NA ns.length nc, .slice FA fs.length fc] 25)).alloc (.cells #[.func (.func 27) #[] #[.pointer (some ⟨C, 0, none⟩)]] 54)).alloc (.cells #[.slice none 0 0] 29)) 25 #[.slice NA ns.length nc, .slice FA fs.length fc]
  rw [World.size_alloc] at bF
  rw [World.size_alloc, World.size_alloc] at bO
  rw [World.size_alloc, World.size_alloc, World.size_alloc] at lB
  have bF2 := (bF.alloc (.cells #[.slice none 0 0] 29)).alloc (.cells #[.slice NA ns.length nc, .slice FA fs.length fc] 25)
  have bO2 := bO.alloc (.cells #[.slice NA ns.length nc, .slice FA fs.length fc] 25)
  have hB0 : Below w.heap.size w ((((w.alloc (.cells #[.slice NA ns.length nc, .slice FA fs.length fc] 25)).alloc (.cells #[.func (.func 27) #[] #[.pointer (some ⟨C, 0, none⟩)]] 54)).alloc (.cells #[.slice none 0 0] 29)).alloc (.cells #[.slice NA ns.length nc, .slice FA fs.length fc] 25)) := ((((Below.refl _ w).alloc (Nat.le_refl _) _).alloc (by simp) _).alloc (by simp; omega) _).alloc (by simp; omega) _
  have hZ : ((((w.alloc (.cells #[.slice NA ns.length nc, .slice FA fs.length fc] 25)).alloc (.cells #[.func (.func 27) #[] #[.pointer (some ⟨C, 0, none⟩)]] 54)).alloc (.cells #[.slice none 0 0] 29)).alloc (.cells #[.slice NA ns.length nc, .slice FA fs.length fc] 25)).heap.size = w.heap.size + 1 + 1 + 1 + 1 := by simp
  generalize (((w.alloc (.cells #[.slice NA ns.length nc, .slice FA fs.length fc] 25)).alloc (.cells #[.func (.func 27) #[] #[.pointer (some ⟨C, 0, none⟩)]] 54)).alloc (.cells #[.slice none 0 0] 29)).alloc (.cells #[.slice NA ns.length nc, .slice FA fs.length fc] 25) = X at *
  have hNI : NodesIn X (w.heap.size + 1 + 1 + 1 + 1) (w.heap.size + 1 + 1) NA ns := fun i hi => by
    obtain ⟨b, o, e, h1, d1, d2, d3⟩ := hN i hi
    exact ⟨b, o, e, by omega, by omega, (hB0.cell (p := ⟨b, o + i * 3, none⟩) h1).trans d1, (hB0.cell (p := ⟨b, o + i * 3 + 1, none⟩) h1).trans d2, (hB0.cell (p := ⟨b, o + i * 3 + 2, none⟩) h1).trans d3⟩
  have hFX := filesAt_below hF hB0
  have hCl := block_lt_of_cell hC
  refine wpIn_rangeFunc_ownH rfl h1 (gf := 50) (lb := #[.pointer (some ⟨w.heap.size + 1 + 1 + 1, 0, none⟩)]) rfl trivial (enters_of Try.func50 (by kernel_rfl) rfl)
    (nodes_stops (n - 1) (by omega) ns fs hp (w.heap.size + 1 + 1 + 1) (w.heap.size + 1 + 1 + 1 + 1) (w.heap.size + 1 + 1) NA FA nc fc X (by omega) (by omega) (lies_cell lB 0) (lies_cell lB 1) hNI hFX) kw_t (kw_b (by omega)) (Below.refl _ _) (fun _ => rfl)
    (fun (pre : List NdK) W => Boxed W (w.heap.size + 1) 54 (.func (.func 27) #[] #[.pointer (some ⟨C, 0, none⟩)]) ∧ (∃ v, Boxed W (w.heap.size + 1 + 1) 29 v ∧ W.ownsRow (w.heap.size + 1 + 1 + 1 + 1) 9 1 v (pickK P pre).length ((pickK P pre).map St) ∧ True) ∧ Below w.heap.size w W ∧ w.heap.size + 1 + 1 + 1 + 1 ≤ W.heap.size)
    (fun _ _ _ => False)
    (OwnFrom.and (Own.from (fun s Y Z row ha hg hr => boxed_own (β := Unit) (w.heap.size + 1) 54 (fun _ => .func (.func 27) #[] #[.pointer (some ⟨C, 0, none⟩)]) () Y Z row ha hg hr) _) (OwnFrom.and (Own.from (holdsRow_own (w.heap.size + 1 + 1 + 1 + 1) (w.heap.size + 1 + 1) 29 9 1 (fun (pre : List NdK) => (pickK P pre).length) (fun pre => (pickK P pre).map St) (fun _ _ => True)) _) (OwnFrom.and (ownFrom_below (Nat.le_refl _) (by omega)) (fun _ _ _ _ hs hg _ => Nat.le_trans hs hg.size))))
    (fun _ _ _ _ _ hs _ _ => hs)
    ⟨bF2, ⟨_, bO2, World.ownsRow_nil _ _ _ _, trivial⟩, hB0, by omega⟩
    (fun x a' W => ∃ Bx, Lies W Bx 41 #[St x.1.2.path, .int .i64 x.1.2.file, .int .i64 x.1.2.mode] ∧ a' = { tmps := #[.agg #[.slice NA ns.length nc, .slice FA fs.length fc], .func (.func 27) #[] #[.pointer (some ⟨C, 0, none⟩)], .pointer (some ⟨w.heap.size, 0, none⟩), .pointer (some ⟨w.heap.size + 1, 0, none⟩), .slice none 0 0, .pointer (some ⟨w.heap.size + 1 + 1, 0, none⟩), undef, .pointer (some ⟨Bx, 0, none⟩), .agg #[.slice NA ns.length nc, .slice FA fs.length fc], .func (.func 50) #[] #[.pointer (some ⟨w.heap.size + 1 + 1 + 1, 0, none⟩)], .int .i64 (x.1.1 : Int), .agg #[St x.1.2.path, .int .i64 x.1.2.file, .int .i64 x.1.2.mode], undef, undef, undef, undef, undef, undef, undef, undef, undef], defers := [] })
    (fun x a' _ Y Z row hs hg hr => by obtain ⟨Bx, h1, h2⟩ := hs; exact ⟨Bx, lies_own Bx 41 _ h1 hg (fun r e => (hr r e).2), h2⟩)
    ?assign ?body ?done ?stop
  case assign =>
    rintro l pre ⟨⟨i, ⟨p, f, md⟩⟩, hx⟩ W K ⟨ha, ⟨v, hv, hrow, _⟩, hB, hsz⟩ hK
    dsimp only [encN] at hK ⊢
    have LN := Lib.hid (lies_new W 41 #[.string { data := #[] }, .int .i64 0, .int .i64 0])
    have ES := Lib.hid (setRow_alloc W 41 #[.string { data := #[] }, .int .i64 0, .int .i64 0] #[St p, .int .i64 f, .int .i64 md])
    have HK := Lib.hid (hK _ (W.alloc (.cells #[St p, .int .i64 f, .int .i64 md] 41)) ((KeepsOthers.alloc _ _).from _) ⟨fun i hi _ => Below.heap_alloc W _ i (by omega), (KeepsOthers.alloc _ _).walks⟩ ⟨ha.alloc _, ⟨v, hv.alloc _, World.ownsRow.alloc hrow _, trivial⟩, hB.alloc hB.size _, by simp; omega⟩ ⟨W.heap.size, lies_new W 41 _, rfl⟩)
    clear hK ha hv hrow hx
    gi_wp2_with (refine wpListIn_store_row rfl 41 _ _ rfl W.heap.size #[St p, .int .i64 f, .int .i64 md] rfl rfl 41 _ LN.out (by kernel_rfl) rfl (by simp [Value.oneCell', St]) ?_; rw [ES.out])
    exact HK.out
  case body =>
    rintro l pre ⟨⟨i, ⟨p, f, md⟩⟩, hx⟩ a' W hl ⟨r, hr⟩ ⟨ha, ⟨v, hv, hrow, _⟩, hB, hsz⟩ ⟨Bx, hlx, rfl⟩ hlt
    have y0 : W.cell? ⟨Bx, 0, none⟩ = some (St p) := lies_cell hlx 0
    have y1 : W.cell? ⟨Bx, 1, none⟩ = some (.int .i64 f) := lies_cell hlx 1
    have y2 : W.cell? ⟨Bx, 2, none⟩ = some (.int .i64 md) := lies_cell hlx 2
    have LM := Lib.hid (node_range (w := W) (b := Bx) (o := 0) (p := p) y0 y1 y2)
    have cf := ha.cell
    have hl5 := pickK_len P pre
    have hl6 : (pickK P pre).length ≤ 256 := by have := SC.out; omega
    have PS := Lib.hid (pickK_snoc P pre ⟨(i, ⟨p, f, md⟩), hx⟩)
    obtain ⟨s, hs⟩ : ∃ s, s = P ⟨p, f, md⟩ := ⟨_, rfl⟩
    have PS2 : Hid (pickK P (pre ++ [⟨(i, ⟨p, f, md⟩), hx⟩]) = pickK P pre ++ (if s = true then [p] else [])) := by rw [hs]; exact PS
    have cC := (hB.cell (p := ⟨C, 0, none⟩) hCl).trans hC
    have ASK := Lib.hid (show Calls Try.prog 27 #[.agg #[St p, .int .i64 f, .int .i64 md], .pointer (some ⟨C, 0, none⟩)] W fun e w' => e = .returned (.bool s) ∧ Below W.heap.size W w' by rw [hs, HPE.out]; exact asksName_any p f md q C W cC)
    have HAA := Lib.hid ha
    have HV := Lib.hid hv
    have HRW := Lib.hid hrow
    have HBB := Lib.hid hB
    have HSZ := Lib.hid hsz
    have YL := Lib.hid (block_lt_of_cell y0)
    clear y1 y2 hs PS cC hl5 hlt ha hv hrow hB hlx
    cases s with
    | false =>
      rw [if_neg (by decide), List.append_nil] at PS2
      have PS3 := Lib.hid PS2.out
      gi_wp2_with (first
        | (refine wpListIn_load_mid rfl 41 _ rfl Bx 0 rfl [St p, .int .i64 f, .int .i64 md] _ LM.out Try.underlying41 rfl (by kernel_rfl) ?_)
        | (refine ⟨trivial, ?_⟩; gi_at_call 27; refine (CallsIn.inRound l (callsIn_wide.2 ASK.out)).mono ?_; rintro e w1 ⟨rfl, hb1⟩; have H1 := Lib.hid hb1; clear hb1))
      exact ⟨(keeps_below H1.out).from _, ⟨fun i hi _ => H1.out.block i (by omega), (keeps_below H1.out).walks⟩, boxed_below HAA.out H1.out, ⟨v, boxed_below HV.out H1.out, by rw [PS3.out]; exact own_below HRW.out H1.out, trivial⟩, HBB.out.trans (H1.out.mono HBB.out.size), Nat.le_trans HSZ.out H1.out.size⟩
    | true =>
      rw [if_pos rfl] at PS2
      have PS3 : Hid (pickK P (pre ++ [⟨(i, ⟨p, f, md⟩), hx⟩]) = pickK P pre ++ [p]) := Lib.hid PS2.out
      gi_wp2_with (first
        | (refine wpListIn_load_mid rfl 41 _ rfl Bx 0 rfl [St p, .int .i64 f, .int .i64 md] _ LM.out Try.underlying41 rfl (by kernel_rfl) ?_)
        | (refine ⟨trivial, ?_⟩; gi_at_call 27; refine (CallsIn.inRound l (callsIn_wide.2 ASK.out)).mono ?_; rintro e w1 ⟨rfl, hb1⟩; have H1 := Lib.hid hb1; have V1 := Lib.hid (boxed_below HV.out hb1); have R1 := Lib.hid (own_below HRW.out hb1); have cv := V1.out.cell; have z0 := (hb1.cell (p := ⟨Bx, 0, none⟩) YL.out).trans y0; clear hb1)
        | (gi_at_builtin; refine wpListIn_append_own _ rfl _ _ 29 rfl (w.heap.size + 1 + 1 + 1 + 1) 9 i0 (.string ⟨#[]⟩) 1 16 Try.underlying29 hi hz0 hz1 hz2 rfl (by decide) _ _ _ rfl (R1.out.alloc _) ⟨w1.heap.size, 0, none⟩ 1 1 [St p] rfl rfl (cell_one_new _ _ _) (fun y hy => by rw [List.mem_singleton] at hy; subst hy; rfl) (by unfold maxLen; omega) (by omega) (by have := H1.out.size; simp; omega) ?_; intro v' w2 hown' hgrow _; obtain ⟨g', cap', rfl⟩ := ownsRow_succ hown'; obtain ⟨hv1', hv2, hr2, hk2, hb2, he2⟩ := appended3 (n₀ := w.heap.size) V1.out (by decide) R1.out (Nat.le_trans HBB.out.size H1.out.size) (by omega) (by omega) (Nat.le_trans HSZ.out H1.out.size) hown' hgrow; have hc1' := hv1'.cell; have hf1 := hv1'.frozen; have HK2 := Lib.hid hk2; have HB2 := Lib.hid hb2; have HV2 := Lib.hid hv2; have HR2 := Lib.hid hr2; have HE2 := Lib.hid he2; have HA2 := Lib.hid (boxed_of (he2 (w.heap.size + 1) (by omega) (by omega)) (boxed_below HAA.out H1.out)); clear hk2 hb2 hv2 hr2 he2 hgrow hown'))
      · rename_i h
        rcases h with h | h
        · exact absurd h (by simp [St])
        · exact absurd h (by simp [St])
      exact ⟨((keeps_below H1.out).trans HK2.out).from _, ⟨fun i hi hne => (HE2.out i hi hne).trans (H1.out.block i (by omega)), ((keeps_below H1.out).trans HK2.out).walks⟩, HA2.out, ⟨_, HV2.out, by rw [PS3.out]; simpa using HR2.out, trivial⟩, (HBB.out.trans (H1.out.mono HBB.out.size)).trans HB2.out, Nat.le_trans (Nat.le_trans HSZ.out H1.out.size) HB2.out.size⟩
  case done =>
    rintro D ys W hD rfl ⟨ha, ⟨v, hv1, hrow, _⟩, hB, _⟩ hK
    have hc := hv1.cell
    gi_wp2
    refine ⟨by simp, .inl ⟨_, _, rfl, run_takeDeferred hK, ?_⟩⟩
    exact ⟨_, results_tmp rfl _ _ _, v, rfl, ownsRow_putObj (World.ownsRow.mono (base' := w.heap.size) hrow (by omega)) _ hK rfl, hB.trans (belowK_b (w := w) (Nat.le_refl _) W D _ _ (by omega) hK rfl rfl)⟩
  case stop =>
    rintro D c pre W _ _ h _
    exact h.elim
set_option maxRecDepth 100000 in
set_option maxHeartbeats 4000000 in
theorem askKids_in (n : Nat) (hn : 6 ≤ n) (NA FA : Option Addr) (nc fc : Nat) (ns : List Nd) (fs : List Fl) (q : Bt) (C : Nat) (w : World) (hN : NodesAt w NA ns) (hF : FilesAt w FA fs) (hp : ∀ x ∈ ns, x.path.length ≤ 100000) (hC : w.cell? ⟨C, 0, none⟩ = some (St q)) :
    CallsIn .wide n Try.prog 26 #[.agg #[.slice NA ns.length nc, .slice FA fs.length fc], .func (.func 28) #[] #[.pointer (some ⟨C, 0, none⟩)]] w fun e W' => ∃ v, e = .returned v ∧ W'.ownsRow w.heap.size 9 1 v (pickK (fun x => same (upP x.path) q) (seqL ns fs)).length ((pickK (fun x => same (upP x.path) q) (seqL ns fs)).map St) ∧ Below w.heap.size w W' := by
  have h1 : 1 ≤ n := by omega
  have hn3 : 1 ≤ n - 1 - 1 := by omega
  have SC := Lib.hid (seq_count ns fs)
  obtain ⟨i0, hi, hz0, hz1, hz2⟩ := info_parts str_info
  obtain ⟨P, hP⟩ : ∃ P : Nd → Bool, P = fun x => same (upP x.path) q := ⟨_, rfl⟩
  rw [← hP]
  have HPE := Lib.hid hP
  clear hP
  refine callsIn_of_wp_marks Try.func26 rfl trivial ?_ rfl
  simp only [Try.ntmps26, List.size_toArray, List.length_cons, List.length_nil, Nat.reduceAdd, Nat.reduceSub, Array.replicate_succ, Array.replicate_zero, List.push_toArray, List.append_toArray, List.nil_append, List.cons_append]
  have x0 : (w.alloc (.cells #[.slice NA ns.length nc, .slice FA fs.length fc] 25)).cell? ⟨w.heap.size, 0, none⟩ = some (.slice NA ns.length nc) := lies_cell (lies_new w 25 _) 0
  have x1 : (w.alloc (.cells #[.slice NA ns.length nc, .slice FA fs.length fc] 25)).cell? ⟨w.heap.size, 1, none⟩ = some (.slice FA fs.length fc) := lies_cell (lies_new w 25 _) 1
  gi_wp2_with (refine ⟨trivial, ?_⟩; gi_at_call 25; refine (nodes_in (n - 1) _ _ _).mono ?_; rintro e w' ⟨rfl, rfl⟩)
  have bF := Boxed.new (w.alloc (.cells #[.slice NA ns.length nc, .slice FA fs.length fc] 25)) 54 (.func (.func 28) #[] #[.pointer (some ⟨C, 0, none⟩)])
  have bO := Boxed.new ((w.alloc (.cells #[.slice NA ns.length nc, .slice FA fs.length fc] 25)).alloc (.cells #[.func (.func 28) #[] #[.pointer (some ⟨C, 0, none⟩)]] 54)) 29 (.slice none 0 0)
  have lB := lies_new (((w.alloc (.cells #[.slice NA ns.length nc, .slice FA fs.length fc] 25)).alloc (.cells #[.func (.func 28) #[] #[.pointer (some ⟨C, 0, none⟩)]] 54)).alloc (.cells #[.slice none 0 0] 29)) 25 #[.slice NA ns.length nc, .slice FA fs.length fc]
  rw [World.size_alloc] at bF
  rw [World.size_alloc, World.size_alloc] at bO
  rw [World.size_alloc, World.size_alloc, World.size_alloc] at lB
  have bF2 := (bF.alloc (.cells #[.slice none 0 0] 29)).alloc (.cells #[.slice NA ns.length nc, .slice FA fs.length fc] 25)
  have bO2 := bO.alloc (.cells #[.slice NA ns.length nc, .slice FA fs.length fc] 25)
  have hB0 : Below w.heap.size w ((((w.alloc (.cells #[.slice NA ns.length nc, .slice FA fs.length fc] 25)).alloc (.cells #[.func (.func 28) #[] #[.pointer (some ⟨C, 0, none⟩)]] 54)).alloc (.cells #[.slice none 0 0] 29)).alloc (.cells #[.slice NA ns.length nc, .slice FA fs.length fc] 25)) := ((((Below.refl _ w).alloc (Nat.le_refl _) _).alloc (by simp) _).alloc (by simp; omega) _).alloc (by simp; omega) _
  have hZ : ((((w.alloc (.cells #[.slice NA ns.length nc, .slice FA fs.length fc] 25)).alloc (.cells #[.func (.func 28) #[] #[.pointer (some ⟨C, 0, none⟩)]] 54)).alloc (.cells #[.slice none 0 0] 29)).alloc (.cells #[.slice NA ns.length nc, .slice FA fs.length fc] 25)).heap.size = w.heap.size + 1 + 1 + 1 + 1 := by simp
  generalize (((w.alloc (.cells #[.slice NA ns.length nc, .slice FA fs.length fc] 25)).alloc (.cells #[.func (.func 28) #[] #[.pointer (some ⟨C, 0, none⟩)]] 54)).alloc (.cells #[.slice none 0 0] 29)).alloc (.cells #[.slice NA ns.length nc, .slice FA fs.length fc] 25) = X at *
  have hNI : NodesIn X (w.heap.size + 1 + 1 + 1 + 1) (w.heap.size + 1 + 1) NA ns := fun i hi => by
    obtain ⟨b, o, e, h1, d1, d2, d3⟩ := hN i hi
    exact ⟨b, o, e, by omega, by omega, (hB0.cell (p := ⟨b, o + i * 3, none⟩) h1).trans d1, (hB0.cell (p := ⟨b, o + i * 3 + 1, none⟩) h1).trans d2, (hB0.cell (p := ⟨b, o + i * 3 + 2, none⟩) h1).trans d3⟩
  have hFX := filesAt_below hF hB0
  have hCl := block_lt_of_cell hC
  refine wpIn_rangeFunc_ownH rfl h1 (gf := 50) (lb := #[.pointer (some ⟨w.heap.size + 1 + 1 + 1, 0, none⟩)]) rfl trivial (enters_of Try.func50 (by kernel_rfl) rfl)
    (nodes_stops (n - 1) (by omega) ns fs hp (w.heap.size + 1 + 1 + 1) (w.heap.size + 1 + 1 + 1 + 1) (w.heap.size + 1 + 1) NA FA nc fc X (by omega) (by omega) (lies_cell lB 0) (lies_cell lB 1) hNI hFX) kw_t (kw_b (by omega)) (Below.refl _ _) (fun _ => rfl)
    (fun (pre : List NdK) W => Boxed W (w.heap.size + 1) 54 (.func (.func 28) #[] #[.pointer (some ⟨C, 0, none⟩)]) ∧ (∃ v, Boxed W (w.heap.size + 1 + 1) 29 v ∧ W.ownsRow (w.heap.size + 1 + 1 + 1 + 1) 9 1 v (pickK P pre).length ((pickK P pre).map St) ∧ True) ∧ Below w.heap.size w W ∧ w.heap.size + 1 + 1 + 1 + 1 ≤ W.heap.size)
    (fun _ _ _ => False)
    (OwnFrom.and (Own.from (fun s Y Z row ha hg hr => boxed_own (β := Unit) (w.heap.size + 1) 54 (fun _ => .func (.func 28) #[] #[.pointer (some ⟨C, 0, none⟩)]) () Y Z row ha hg hr) _) (OwnFrom.and (Own.from (holdsRow_own (w.heap.size + 1 + 1 + 1 + 1) (w.heap.size + 1 + 1) 29 9 1 (fun (pre : List NdK) => (pickK P pre).length) (fun pre => (pickK P pre).map St) (fun _ _ => True)) _) (OwnFrom.and (ownFrom_below (Nat.le_refl _) (by omega)) (fun _ _ _ _ hs hg _ => Nat.le_trans hs hg.size))))
    (fun _ _ _ _ _ hs _ _ => hs)
    ⟨bF2, ⟨_, bO2, World.ownsRow_nil _ _ _ _, trivial⟩, hB0, by omega⟩
    (fun x a' W => ∃ Bx, Lies W Bx 41 #[St x.1.2.path, .int .i64 x.1.2.file, .int .i64 x.1.2.mode] ∧ a' = { tmps := #[.agg #[.slice NA ns.length nc, .slice FA fs.length fc], .func (.func 28) #[] #[.pointer (some ⟨C, 0, none⟩)], .pointer (some ⟨w.heap.size, 0, none⟩), .pointer (some ⟨w.heap.size + 1, 0, none⟩), .slice none 0 0, .pointer (some ⟨w.heap.size + 1 + 1, 0, none⟩), undef, .pointer (some ⟨Bx, 0, none⟩), .agg #[.slice NA ns.length nc, .slice FA fs.length fc], .func (.func 50) #[] #[.pointer (some ⟨w.heap.size + 1 + 1 + 1, 0, none⟩)], .int .i64 (x.1.1 : Int), .agg #[St x.1.2.path, .int .i64 x.1.2.file, .int .i64 x.1.2.mode], undef, undef, undef, undef, undef, undef, undef, undef, undef], defers := [] })
    (fun x a' _ Y Z row hs hg hr => by obtain ⟨Bx, h1, h2⟩ := hs; exact ⟨Bx, lies_own Bx 41 _ h1 hg (fun r e => (hr r e).2), h2⟩)
    ?assign ?body ?done ?stop
  case assign =>
    rintro l pre ⟨⟨i, ⟨p, f, md⟩⟩, hx⟩ W K ⟨ha, ⟨v, hv, hrow, _⟩, hB, hsz⟩ hK
    dsimp only [encN] at hK ⊢
    have LN := Lib.hid (lies_new W 41 #[.string { data := #[] }, .int .i64 0, .int .i64 0])
    have ES := Lib.hid (setRow_alloc W 41 #[.string { data := #[] }, .int .i64 0, .int .i64 0] #[St p, .int .i64 f, .int .i64 md])
    have HK := Lib.hid (hK _ (W.alloc (.cells #[St p, .int .i64 f, .int .i64 md] 41)) ((KeepsOthers.alloc _ _).from _) ⟨fun i hi _ => Below.heap_alloc W _ i (by omega), (KeepsOthers.alloc _ _).walks⟩ ⟨ha.alloc _, ⟨v, hv.alloc _, World.ownsRow.alloc hrow _, trivial⟩, hB.alloc hB.size _, by simp; omega⟩ ⟨W.heap.size, lies_new W 41 _, rfl⟩)
    clear hK ha hv hrow hx
    gi_wp2_with (refine wpListIn_store_row rfl 41 _ _ rfl W.heap.size #[St p, .int .i64 f, .int .i64 md] rfl rfl 41 _ LN.out (by kernel_rfl) rfl (by simp [Value.oneCell', St]) ?_; rw [ES.out])
    exact HK.out
  case body =>
    rintro l pre ⟨⟨i, ⟨p, f, md⟩⟩, hx⟩ a' W hl ⟨r, hr⟩ ⟨ha, ⟨v, hv, hrow, _⟩, hB, hsz⟩ ⟨Bx, hlx, rfl⟩ hlt
    have y0 : W.cell? ⟨Bx, 0, none⟩ = some (St p) := lies_cell hlx 0
    have y1 : W.cell? ⟨Bx, 1, none⟩ = some (.int .i64 f) := lies_cell hlx 1
    have y2 : W.cell? ⟨Bx, 2, none⟩ = some (.int .i64 md) := lies_cell hlx 2
    have LM := Lib.hid (node_range (w := W) (b := Bx) (o := 0) (p := p) y0 y1 y2)
    have cf := ha.cell
    have hl5 := pickK_len P pre
    have hl6 : (pickK P pre).length ≤ 256 := by have := SC.out; omega
    have PS := Lib.hid (pickK_snoc P pre ⟨(i, ⟨p, f, md⟩), hx⟩)
    obtain ⟨s, hs⟩ : ∃ s, s = P ⟨p, f, md⟩ := ⟨_, rfl⟩
    have PS2 : Hid (pickK P (pre ++ [⟨(i, ⟨p, f, md⟩), hx⟩]) = pickK P pre ++ (if s = true then [p] else [])) := by rw [hs]; exact PS
    have cC := (hB.cell (p := ⟨C, 0, none⟩) hCl).trans hC
    have ASK := Lib.hid (show Calls Try.prog 28 #[.agg #[St p, .int .i64 f, .int .i64 md], .pointer (some ⟨C, 0, none⟩)] W fun e w' => e = .returned (.bool s) ∧ Below W.heap.size W w' by rw [hs, HPE.out]; exact asksKid_any p f md q C W hx.2 cC)
    have HAA := Lib.hid ha
    have HV := Lib.hid hv
    have HRW := Lib.hid hrow
    have HBB := Lib.hid hB
    have HSZ := Lib.hid hsz
    have YL := Lib.hid (block_lt_of_cell y0)
    clear y1 y2 hs PS cC hl5 hlt ha hv hrow hB hlx
    cases s with
    | false =>
      rw [if_neg (by decide), List.append_nil] at PS2
      have PS3 := Lib.hid PS2.out
      gi_wp2_with (first
        | (refine wpListIn_load_mid rfl 41 _ rfl Bx 0 rfl [St p, .int .i64 f, .int .i64 md] _ LM.out Try.underlying41 rfl (by kernel_rfl) ?_)
        | (refine ⟨trivial, ?_⟩; gi_at_call 28; refine (CallsIn.inRound l (callsIn_wide.2 ASK.out)).mono ?_; rintro e w1 ⟨rfl, hb1⟩; have H1 := Lib.hid hb1; clear hb1))
      exact ⟨(keeps_below H1.out).from _, ⟨fun i hi _ => H1.out.block i (by omega), (keeps_below H1.out).walks⟩, boxed_below HAA.out H1.out, ⟨v, boxed_below HV.out H1.out, by rw [PS3.out]; exact own_below HRW.out H1.out, trivial⟩, HBB.out.trans (H1.out.mono HBB.out.size), Nat.le_trans HSZ.out H1.out.size⟩
    | true =>
      rw [if_pos rfl] at PS2
      have PS3 : Hid (pickK P (pre ++ [⟨(i, ⟨p, f, md⟩), hx⟩]) = pickK P pre ++ [p]) := Lib.hid PS2.out
      gi_wp2_with (first
        | (refine wpListIn_load_mid rfl 41 _ rfl Bx 0 rfl [St p, .int .i64 f, .int .i64 md] _ LM.out Try.underlying41 rfl (by kernel_rfl) ?_)
        | (refine ⟨trivial, ?_⟩; gi_at_call 28; refine (CallsIn.inRound l (callsIn_wide.2 ASK.out)).mono ?_; rintro e w1 ⟨rfl, hb1⟩; have H1 := Lib.hid hb1; have V1 := Lib.hid (boxed_below HV.out hb1); have R1 := Lib.hid (own_below HRW.out hb1); have cv := V1.out.cell; have z0 := (hb1.cell (p := ⟨Bx, 0, none⟩) YL.out).trans y0; clear hb1)
        | (gi_at_builtin; refine wpListIn_append_own _ rfl _ _ 29 rfl (w.heap.size + 1 + 1 + 1 + 1) 9 i0 (.string ⟨#[]⟩) 1 16 Try.underlying29 hi hz0 hz1 hz2 rfl (by decide) _ _ _ rfl (R1.out.alloc _) ⟨w1.heap.size, 0, none⟩ 1 1 [St p] rfl rfl (cell_one_new _ _ _) (fun y hy => by rw [List.mem_singleton] at hy; subst hy; rfl) (by unfold maxLen; omega) (by omega) (by have := H1.out.size; simp; omega) ?_; intro v' w2 hown' hgrow _; obtain ⟨g', cap', rfl⟩ := ownsRow_succ hown'; obtain ⟨hv1', hv2, hr2, hk2, hb2, he2⟩ := appended3 (n₀ := w.heap.size) V1.out (by decide) R1.out (Nat.le_trans HBB.out.size H1.out.size) (by omega) (by omega) (Nat.le_trans HSZ.out H1.out.size) hown' hgrow; have hc1' := hv1'.cell; have hf1 := hv1'.frozen; have HK2 := Lib.hid hk2; have HB2 := Lib.hid hb2; have HV2 := Lib.hid hv2; have HR2 := Lib.hid hr2; have HE2 := Lib.hid he2; have HA2 := Lib.hid (boxed_of (he2 (w.heap.size + 1) (by omega) (by omega)) (boxed_below HAA.out H1.out)); clear hk2 hb2 hv2 hr2 he2 hgrow hown'))
      · rename_i h
        rcases h with h | h
        · exact absurd h (by simp [St])
        · exact absurd h (by simp [St])
      exact ⟨((keeps_below H1.out).trans HK2.out).from _, ⟨fun i hi hne => (HE2.out i hi hne).trans (H1.out.block i (by omega)), ((keeps_below H1.out).trans HK2.out).walks⟩, HA2.out, ⟨_, HV2.out, by rw [PS3.out]; simpa using HR2.out, trivial⟩, (HBB.out.trans (H1.out.mono HBB.out.size)).trans HB2.out, Nat.le_trans (Nat.le_trans HSZ.out H1.out.size) HB2.out.size⟩
  case done =>
    rintro D ys W hD rfl ⟨ha, ⟨v, hv1, hrow, _⟩, hB, _⟩ hK
    have hc := hv1.cell
    gi_wp2
    refine ⟨by simp, .inl ⟨_, _, rfl, run_takeDeferred hK, ?_⟩⟩
    exact ⟨_, results_tmp rfl _ _ _, v, rfl, ownsRow_putObj (World.ownsRow.mono (base' := w.heap.size) hrow (by omega)) _ hK rfl, hB.trans (belowK_b (w := w) (Nat.le_refl _) W D _ _ (by omega) hK rfl rfl)⟩
  case stop =>
    rintro D c pre W _ _ h _
    exact h.elim
end Go.Proofs.Ytdnagkgblmcojaa
