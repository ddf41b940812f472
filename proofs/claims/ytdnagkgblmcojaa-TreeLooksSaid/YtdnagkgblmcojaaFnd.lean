/-
What is proved here: tree.Find, by a contract.
-/
import Derived.Test.YtdnagkgblmcojaaNds
import Derived.Test.YtdnagkgblmcojaaRft
import Derived.Test.YtdnagkgblmcojaaKep
set_option linter.unusedSimpArgs false
namespace Go.Tre
open Go.Pth Go.Proofs.Ytdnagkgblmcojaa
/-- what Find tells -/
def lookI (ns : List Nd) (fs : List Fl) (p : Bt) : Int := if looseE ns fs = 0 then findI ns p else -1
theorem nodesL_get (ns : List Nd) (j : Nat) (h : j < ns.length) : (nodesL ns)[j]? = some (ndK j ns[j]) := by
  unfold nodesL nodesTo
  simp [h, List.getD_eq_getElem?_getD]
theorem seq_no (ns : List Nd) (fs : List Fl) (p : Bt) (hp : ∀ x ∈ ns, x.path.length ≤ 100000) (h : ∀ x ∈ seqL ns fs, same x.1.2.path p = false) : lookI ns fs p = -1 := by
  unfold lookI
  by_cases hz : looseE ns fs = 0
  · rw [if_pos hz]
    refine findI_no ns p (fun j hj => ?_)
    have h1 := h (ndK j ns[j]) (by
      unfold seqL
      rw [if_pos hz]
      exact List.mem_of_getElem? (nodesL_get ns j hj))
    rw [ndK_val j ns[j] (by have := (loose_small hz).1; omega) (hp _ (List.getElem_mem hj))] at h1
    exact h1
  · rw [if_neg hz]
theorem seq_at (ns : List Nd) (fs : List Fl) (p : Bt) (pre : List NdK) (x : NdK) (hp : ∀ x ∈ ns, x.path.length ≤ 100000) (hpre : pre ++ [x] <+: seqL ns fs) (h : ∀ y ∈ pre, same y.1.2.path p = false) (h2 : same x.1.2.path p = true) : lookI ns fs p = (x.1.1 : Int) := by
  unfold lookI
  obtain ⟨t, ht⟩ := hpre
  by_cases hz : looseE ns fs = 0
  · rw [if_pos hz]
    unfold seqL at ht
    rw [if_pos hz] at ht
    have hn := (loose_small hz).1
    have hl : (nodesL ns).length = ns.length := nodesTo_len _ _
    have hlen : pre.length < ns.length := by rw [← hl, ← ht]; simp
    have at_ : ∀ j (hj : j < ns.length), (ndK j ns[j]).1 = (j, ns[j]) := fun j hj => ndK_val j ns[j] (by omega) (hp _ (List.getElem_mem hj))
    have hx : x = ndK pre.length ns[pre.length] := by
      have := nodesL_get ns pre.length hlen
      rw [← ht, List.append_assoc, List.getElem?_append_right (Nat.le_refl _)] at this
      simpa using this
    rw [hx, at_ _ hlen] at h2
    rw [hx, at_ _ hlen]
    refine findI_at ns p pre.length hlen h2 (fun j hj => ?_)
    have hj2 : j < ns.length := by omega
    have hy : pre[j]'hj = ndK j ns[j] := by
      have := nodesL_get ns j hj2
      rw [← ht, List.append_assoc, List.getElem?_append_left hj, List.getElem?_eq_getElem hj] at this
      simpa using this
    have := h _ (List.getElem_mem hj)
    rw [hy, at_ _ hj2] at this
    exact this
  · unfold seqL at ht
    rw [if_neg hz] at ht
    simp at ht
end Go.Tre
namespace Go.Proofs.Ytdnagkgblmcojaa
open Go.Pth Go.Tre Go.RowKit Go.Word Go.Shelf
attribute [local go_sem] Oper.semAt_some guard_eq guard_ne st_eql

/-- no node of these has the path -/
def NoneOf (p : Bt) (pre : List NdK) : Prop := ∀ x ∈ pre, same x.1.2.path p = false
/-- the last of these has the path, and its place lies in the block -/
def Hit (p : Bt) (B : Nat) (pre : List NdK) (W : World) : Prop := ∃ pr x, pre = pr ++ [x] ∧ NoneOf p pr ∧ same x.1.2.path p = true ∧ Boxed W B 3 (.int .i64 (x.1.1 : Int))
theorem lies_own (B : Nat) (t : TypeId) (cs : Array Value) {X Y : World} {row : Option Nat} (h : Lies X B t cs) (hg : X.grownBy Y row) (hr : ∀ r, row = some r → ∃ o : Obj, X.heap[r]? = some o ∧ o.isCells = false) : Lies Y B t cs :=
  (hg.block B (lies_lt h) (fun e => by
    obtain ⟨o, ho, hc⟩ := hr B e.symm
    unfold Lies at h
    rw [h] at ho
    injection ho with ho
    subst ho
    cases hc)).trans h
theorem nodes_in (n : Nat) (x y : Value) (w : World) :
    CallsIn .wide n Try.prog 25 #[.agg #[x, y]] w fun e w' => e = .returned (.func (.func 50) #[] #[.pointer (some ⟨w.heap.size, 0, none⟩)]) ∧ w' = w.alloc (.cells #[x, y] 25) := by
  refine callsIn_of_wp Try.func25 rfl trivial ?_ rfl
  simp only [Try.ntmps25, List.size_toArray, List.length_cons, List.length_nil, Nat.reduceAdd, Nat.reduceSub, Array.replicate_succ, Array.replicate_zero, List.push_toArray, List.append_toArray, List.nil_append, List.cons_append]
  gi_wp2
  go_ret
  exact ⟨rfl, rfl⟩
set_option maxRecDepth 100000 in
set_option maxHeartbeats 4000000 in
theorem find_in (n : Nat) (hn : 4 ≤ n) (NA FA : Option Addr) (nc fc : Nat) (ns : List Nd) (fs : List Fl) (p : Bt) (w : World) (hN : NodesAt w NA ns) (hF : FilesAt w FA fs) (hp : ∀ x ∈ ns, x.path.length ≤ 100000) :
    CallsIn .wide n Try.prog 10 #[.agg #[.slice NA ns.length nc, .slice FA fs.length fc], St p] w fun e W' => e = .returned (.int .i64 (lookI ns fs p)) ∧ Below w.heap.size w W' := by
  have h1 : 1 ≤ n := by omega
  refine callsIn_of_wp_marks Try.func10 rfl trivial ?_ rfl
  simp only [Try.ntmps10, List.size_toArray, List.length_cons, List.length_nil, Nat.reduceAdd, Nat.reduceSub, Array.replicate_succ, Array.replicate_zero, List.push_toArray, List.append_toArray, List.nil_append, List.cons_append]
  have x0 : (w.alloc (.cells #[.slice NA ns.length nc, .slice FA fs.length fc] 25)).cell? ⟨w.heap.size, 0, none⟩ = some (.slice NA ns.length nc) := lies_cell (lies_new w 25 _) 0
  have x1 : (w.alloc (.cells #[.slice NA ns.length nc, .slice FA fs.length fc] 25)).cell? ⟨w.heap.size, 1, none⟩ = some (.slice FA fs.length fc) := lies_cell (lies_new w 25 _) 1
  gi_wp2_with (refine ⟨trivial, ?_⟩; gi_at_call 25; refine (nodes_in (n - 1) _ _ _).mono ?_; rintro e w' ⟨rfl, rfl⟩)
  have bP := Boxed.new (w.alloc (.cells #[.slice NA ns.length nc, .slice FA fs.length fc] 25)) 9 (St p)
  have bR := Boxed.new ((w.alloc (.cells #[.slice NA ns.length nc, .slice FA fs.length fc] 25)).alloc (.cells #[St p] 9)) 3 (.int .i64 0)
  have lB := lies_new (((w.alloc (.cells #[.slice NA ns.length nc, .slice FA fs.length fc] 25)).alloc (.cells #[St p] 9)).alloc (.cells #[.int .i64 0] 3)) 25 #[.slice NA ns.length nc, .slice FA fs.length fc]
  rw [World.size_alloc] at bP
  rw [World.size_alloc, World.size_alloc] at bR
  rw [World.size_alloc, World.size_alloc, World.size_alloc] at lB
  have bP2 := (bP.alloc (.cells #[.int .i64 0] 3)).alloc (.cells #[.slice NA ns.length nc, .slice FA fs.length fc] 25)
  have bR2 := bR.alloc (.cells #[.slice NA ns.length nc, .slice FA fs.length fc] 25)
  have hB0 : Below w.heap.size w ((((w.alloc (.cells #[.slice NA ns.length nc, .slice FA fs.length fc] 25)).alloc (.cells #[St p] 9)).alloc (.cells #[.int .i64 0] 3)).alloc (.cells #[.slice NA ns.length nc, .slice FA fs.length fc] 25)) := ((((Below.refl _ w).alloc (Nat.le_refl _) _).alloc (by simp) _).alloc (by simp; omega) _).alloc (by simp; omega) _
  have hZ : ((((w.alloc (.cells #[.slice NA ns.length nc, .slice FA fs.length fc] 25)).alloc (.cells #[St p] 9)).alloc (.cells #[.int .i64 0] 3)).alloc (.cells #[.slice NA ns.length nc, .slice FA fs.length fc] 25)).heap.size = w.heap.size + 1 + 1 + 1 + 1 := by simp
  generalize (((w.alloc (.cells #[.slice NA ns.length nc, .slice FA fs.length fc] 25)).alloc (.cells #[St p] 9)).alloc (.cells #[.int .i64 0] 3)).alloc (.cells #[.slice NA ns.length nc, .slice FA fs.length fc] 25) = X at *
  have hNI : NodesIn X (w.heap.size + 1 + 1 + 1 + 1) (w.heap.size + 1 + 1) NA ns := fun i hi => by
    obtain ⟨b, o, e, h1, d1, d2, d3⟩ := hN i hi
    exact ⟨b, o, e, by omega, by omega, (hB0.cell (p := ⟨b, o + i * 3, none⟩) h1).trans d1, (hB0.cell (p := ⟨b, o + i * 3 + 1, none⟩) h1).trans d2, (hB0.cell (p := ⟨b, o + i * 3 + 2, none⟩) h1).trans d3⟩
  have hFX := filesAt_below hF hB0
  refine wpIn_rangeFunc_ownH rfl h1 (gf := 50) (lb := #[.pointer (some ⟨w.heap.size + 1 + 1 + 1, 0, none⟩)]) rfl trivial (enters_of Try.func50 (by kernel_rfl) rfl)
    (nodes_stops (n - 1) (by omega) ns fs hp (w.heap.size + 1 + 1 + 1) (w.heap.size + 1 + 1 + 1 + 1) (w.heap.size + 1 + 1) NA FA nc fc X (by omega) (by omega) (lies_cell lB 0) (lies_cell lB 1) hNI hFX) kw_t (kw_b (by omega)) (Below.refl _ _) (fun _ => rfl)
    (fun (pre : List NdK) W => (Boxed W (w.heap.size + 1) 9 (St p) ∧ (∃ v, Boxed W (w.heap.size + 1 + 1) 3 v) ∧ NoneOf p pre) ∧ Below w.heap.size w W ∧ w.heap.size + 1 + 1 + 1 + 1 ≤ W.heap.size)
    (fun c (pre : List NdK) W => (c = .ret ∧ Hit p (w.heap.size + 1 + 1) pre W) ∧ Below w.heap.size w W)
    (OwnFrom.and (Own.from (fun s Y Z row ⟨ha, ⟨v, hb⟩, hc⟩ hg hr => ⟨boxed_own (β := Unit) (w.heap.size + 1) 9 (fun _ => St p) () Y Z row ha hg hr, ⟨v, boxed_own (β := Unit) (w.heap.size + 1 + 1) 3 (fun _ => v) () Y Z row hb hg hr⟩, hc⟩) _) (OwnFrom.and (ownFrom_below (Nat.le_refl _) (by omega)) (fun _ _ _ _ hs hg _ => Nat.le_trans hs hg.size)))
    (fun c => OwnFrom.and (Own.from (fun s Y Z row ⟨ha, pr, x, hb, hc, hd, he⟩ hg hr => ⟨ha, pr, x, hb, hc, hd, boxed_own (β := Unit) (w.heap.size + 1 + 1) 3 (fun _ => .int .i64 (x.1.1 : Int)) () Y Z row he hg hr⟩) _) (ownFrom_below (Nat.le_refl _) (by omega)))
    ⟨⟨bP2, ⟨_, bR2⟩, fun x hx => by cases hx⟩, hB0, by omega⟩
    (fun x a' W => ∃ Bx, Lies W Bx 41 #[St x.1.2.path, .int .i64 x.1.2.file, .int .i64 x.1.2.mode] ∧ a' = { tmps := #[.agg #[.slice NA ns.length nc, .slice FA fs.length fc], St p, .pointer (some ⟨w.heap.size, 0, none⟩), .pointer (some ⟨w.heap.size + 1, 0, none⟩), .pointer (some ⟨w.heap.size + 1 + 1, 0, none⟩), .int .i64 (x.1.1 : Int), .pointer (some ⟨Bx, 0, none⟩), .agg #[.slice NA ns.length nc, .slice FA fs.length fc], .func (.func 50) #[] #[.pointer (some ⟨w.heap.size + 1 + 1 + 1, 0, none⟩)], .int .i64 (x.1.1 : Int), .agg #[St x.1.2.path, .int .i64 x.1.2.file, .int .i64 x.1.2.mode], undef, undef, undef, undef, undef], defers := [] })
    (fun x a' _ Y Z row hs hg hr => by obtain ⟨Bx, h1, h2⟩ := hs; exact ⟨Bx, lies_own Bx 41 _ h1 hg (fun r e => (hr r e).2), h2⟩)
    ?assign ?body ?done ?stop
  case assign =>
    rintro l pre ⟨⟨i, ⟨q, f, md⟩⟩, hx⟩ W K ⟨⟨hP, ⟨v, hR⟩, hno⟩, hB, hsz⟩ hK
    dsimp only [encN] at hK ⊢
    have LN := Lib.hid (lies_new W 41 #[.string { data := #[] }, .int .i64 0, .int .i64 0])
    have ES := Lib.hid (setRow_alloc W 41 #[.string { data := #[] }, .int .i64 0, .int .i64 0] #[St q, .int .i64 f, .int .i64 md])
    have HK := Lib.hid (hK _ (W.alloc (.cells #[St q, .int .i64 f, .int .i64 md] 41)) ((KeepsOthers.alloc _ _).from _) ⟨fun i hi _ => Below.heap_alloc W _ i (by omega), (KeepsOthers.alloc _ _).walks⟩ ⟨⟨hP.alloc _, ⟨v, hR.alloc _⟩, hno⟩, hB.alloc hB.size _, by simp; omega⟩ ⟨W.heap.size, lies_new W 41 _, rfl⟩)
    clear hK hP hR hno hx
    gi_wp2_with (refine wpListIn_store_row rfl 41 _ _ rfl W.heap.size #[St q, .int .i64 f, .int .i64 md] rfl rfl 41 _ LN.out (by kernel_rfl) rfl (by simp [Value.oneCell', St]) ?_; rw [ES.out])
    exact HK.out
  case body =>
    rintro l pre ⟨⟨i, ⟨q, f, md⟩⟩, hx⟩ a' W hl ⟨r, hr⟩ ⟨⟨hP, ⟨v, hR⟩, hno⟩, hB, hsz⟩ ⟨Bx, hlx, rfl⟩ hlt
    have cx : W.cell? ⟨Bx, 0, none⟩ = some (St q) := lies_cell hlx 0
    have cp := hP.cell
    have cr := hR.cell
    have fr := hR.frozen
    cases hs : same q p with
    | false =>
      have HH := Lib.hid (show NoneOf p (pre ++ [(⟨(i, ⟨q, f, md⟩), hx⟩ : NdK)]) from fun y hy => by
        rcases List.mem_append.1 hy with h | h
        · exact hno y h
        · rw [List.mem_singleton] at h; subst h; exact hs)
      clear hno hlt
      gi_wp2
      exact ⟨KeepsFrom.refl _ _, ⟨fun _ _ _ => rfl, .refl _⟩, ⟨hP, ⟨v, hR⟩, HH.out⟩, hB, hsz⟩
    | true =>
      have HIT := Lib.hid (show Hit p (w.heap.size + 1 + 1) (pre ++ [(⟨(i, ⟨q, f, md⟩), hx⟩ : NdK)]) (W.setCell ⟨w.heap.size + 1 + 1, 0, none⟩ (.int .i64 (i : Int))) from ⟨pre, _, rfl, hno, hs, hR.set _⟩)
      clear hno hlt
      gi_wp2
      exact ⟨(KeepsOthers.setCell _ _ _).from _, ⟨rfl, HIT.out⟩, hB.setCell (p := ⟨w.heap.size + 1 + 1, 0, none⟩) (by show _ ≤ w.heap.size + 1 + 1; omega) _⟩
  case done =>
    rintro D ys W hD rfl ⟨⟨hP, ⟨v, hR⟩, hno⟩, hB, hsz⟩ hK
    have hc := hR.cell
    have hf := hR.frozen
    have HR := Lib.hid (seq_no ns fs p hp hno)
    clear hno
    gi_wp2
    have hK' := (KeepsOthers.setCell W ⟨w.heap.size + 1 + 1, 0, none⟩ (.int .i64 (-1))).same D _ hK rfl
    refine ⟨by simp, .inl ⟨_, _, rfl, run_takeDeferred hK', ?_⟩⟩
    have hc5 := cell_kept (hR.set (.int .i64 (-1))).cell (grownBy_putObj' _ D (.deferred none)) (fun r e => by cases e; exact ⟨_, hK', rfl⟩)
    refine ⟨.int .i64 (-1), ?_, by rw [HR.out], (hB.setCell (p := ⟨w.heap.size + 1 + 1, 0, none⟩) (by show _ ≤ w.heap.size + 1 + 1; omega) _).trans (belowK_b (w := w) (Nat.le_refl _) _ D _ _ (by omega) hK' rfl rfl)⟩
    simp [results, Try.f10, go_sem, hc5]
  case stop =>
    rintro D c pre W hD hpre ⟨⟨rfl, pr, x, rfl, hno, hs, hR⟩, hB⟩ hK
    have HR := Lib.hid (seq_at ns fs p pr x hp hpre hno hs)
    clear hno hpre hs
    gi_wp2
    refine ⟨by simp, .inl ⟨_, _, rfl, run_takeDeferred hK, ?_⟩⟩
    have hc5 := cell_kept hR.cell (grownBy_putObj' _ D (.deferred none)) (fun r e => by cases e; exact ⟨_, hK, rfl⟩)
    refine ⟨.int .i64 (x.1.1 : Int), ?_, by rw [HR.out], hB.trans (belowK_b (w := w) (Nat.le_refl _) W D _ _ (by omega) hK rfl rfl)⟩
    simp [results, Try.f10, go_sem, hc5]
theorem find_any (NA FA : Option Addr) (nc fc : Nat) (ns : List Nd) (fs : List Fl) (p : Bt) (w : World) (hN : NodesAt w NA ns) (hF : FilesAt w FA fs) (hp : ∀ x ∈ ns, x.path.length ≤ 100000) :
    Calls Try.prog 10 #[.agg #[.slice NA ns.length nc, .slice FA fs.length fc], St p] w fun e W' => e = .returned (.int .i64 (lookI ns fs p)) ∧ Below w.heap.size w W' :=
  (callsIn_wide (n := 4)).1 (find_in 4 (by omega) NA FA nc fc ns fs p w hN hF hp)
end Go.Proofs.Ytdnagkgblmcojaa
