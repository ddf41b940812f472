/-
What is proved here: the document's own Fresh, by a contract; on lists it finds what Fresh finds. what the law MatchSays keeps in memory; bytes that it spoils; a look at two rows of sources, or at none. the law MatchSays, by a contract.
-/
import Derived.Test.YtiglakhfkgeefaaRf3
import Derived.Test.YtiglakhfkgeefaaRfs
import Derived.Test.YtiglakhfkgeefaaWhu
import Derived.Test.YtiglakhfkgeefaaLnt
import Derived.Test.YtiglakhfkgeefaaLst
import Derived.Test.YtiglakhfkgeefaaMok
import Derived.Test.YtiglakhfkgeefaaRmq
import Derived.Deep.QuietTactic
import Derived.BigQuiet
import Derived.StillTailTactics
set_option linter.unusedSimpArgs false
set_option linter.unusedVariables false
namespace Go.Mat
open Go.Pth Go.Tre
/-- what the document's own Fresh has behind i files -/
def frR (sds tds : List Bt) : Nat → List Bt
  | 0 => []
  | i + 1 => if tds.getD i [] ∈ sds ∨ tds.getD i [] ∈ frR sds tds i then frR sds tds i else frR sds tds i ++ [tds.getD i []]
theorem frR_len (sds tds : List Bt) : ∀ i, (frR sds tds i).length ≤ i
  | 0 => Nat.le_refl _
  | i + 1 => by
    have := frR_len sds tds i
    unfold frR
    split
    · omega
    · simp; omega
theorem txTo_mem (ds : List Bt) (hn : ds.length ≤ 1000) (hd : ∀ x ∈ ds, x.length ≤ 100000) (d : Bt) (i : Nat) (hi : i ≤ ds.length) : (∃ x ∈ txTo ds i, x.1.2 = d) ↔ ∃ j, j < i ∧ ds.getD j [] = d := by
  have hv : ∀ j, j < i → (txK j (ds.getD j [])).1.2 = ds.getD j [] := fun j hj => by
    have hl : j < ds.length := by omega
    have e : ds.getD j [] = ds[j] := by rw [List.getD_eq_getElem?_getD, List.getElem?_eq_getElem hl, Option.getD_some]
    rw [txK_val j _ (by omega) (by rw [e]; exact hd _ (List.getElem_mem hl))]
  unfold txTo
  constructor
  · rintro ⟨x, hx, e⟩
    obtain ⟨j, hj, rfl⟩ := List.mem_map.1 hx
    have hj := List.mem_range.1 hj
    exact ⟨j, hj, (hv j hj).symm.trans e⟩
  · rintro ⟨j, hj, e⟩
    exact ⟨_, List.mem_map.2 ⟨j, List.mem_range.2 hj, rfl⟩, (hv j hj).trans e⟩
theorem memD_iff {ds : List Bt} {d : Bt} : (∃ j, j < ds.length ∧ ds.getD j [] = d) ↔ d ∈ ds := by
  constructor
  · rintro ⟨j, hj, rfl⟩
    rw [List.getD_eq_getElem?_getD, List.getElem?_eq_getElem hj, Option.getD_some]
    exact List.getElem_mem hj
  · intro h
    obtain ⟨j, hj, e⟩ := List.mem_iff_getElem.1 h
    exact ⟨j, hj, by rw [List.getD_eq_getElem?_getD, List.getElem?_eq_getElem hj, Option.getD_some, e]⟩
theorem setP_any : ∀ (pre : List TxK) (d : Bt), setP pre d = true ↔ ∃ x ∈ pre, x.1.2 = d := by
  have key : ∀ (n : Nat) (pre : List TxK) (d : Bt), pre.length = n → (setP pre d = true ↔ ∃ x ∈ pre, x.1.2 = d) := by
    intro n
    induction n with
    | zero =>
      intro pre d h
      obtain rfl : pre = [] := List.length_eq_zero_iff.1 h
      simp [setP]
    | succ n ih =>
      intro pre d h
      obtain ⟨q, k, rfl⟩ : ∃ q k, pre = q ++ [k] := ⟨pre.dropLast, pre.getLast (by intro e; rw [e] at h; simp at h), (List.dropLast_concat_getLast _).symm⟩
      have hq : q.length = n := by simpa using h
      rw [setP_snoc]
      simp only [Bool.or_eq_true, beq_iff_eq, ih q d hq]
      constructor
      · rintro (e | ⟨x, hx, e⟩)
        · exact ⟨k, List.mem_append_right _ (List.mem_singleton.2 rfl), e.symm⟩
        · exact ⟨x, List.mem_append_left _ hx, e⟩
      · rintro ⟨x, hx, e⟩
        rcases List.mem_append.1 hx with hx | hx
        · exact .inr ⟨x, hx, e⟩
        · rw [List.mem_singleton] at hx; subst hx; exact .inl e.symm
  exact fun pre d => key _ pre d rfl
theorem setP_iff (ds : List Bt) (hn : ds.length ≤ 1000) (hd : ∀ x ∈ ds, x.length ≤ 100000) (d : Bt) : setP (txL ds) d = true ↔ d ∈ ds := by
  rw [setP_any]
  unfold txL
  rw [txTo_mem ds hn hd d _ (Nat.le_refl _), memD_iff]
theorem fr_ref (sds tds : List Bt) (hn : sds.length ≤ 1000) (hd : ∀ x ∈ sds, x.length ≤ 100000) (hn2 : tds.length ≤ 1000) (hd2 : ∀ x ∈ tds, x.length ≤ 100000) : ∀ i, i ≤ tds.length → (frP (setP (txL sds)) (txTo tds i)).2 = frR sds tds i
  | 0, _ => rfl
  | i + 1, hi => by
    have ih := fr_ref sds tds hn hd hn2 hd2 i (by omega)
    have hil : i < tds.length := hi
    have e : tds.getD i [] = tds[i] := by rw [List.getD_eq_getElem?_getD, List.getElem?_eq_getElem hil, Option.getD_some]
    rw [txTo_succ tds i hil, frP_snoc]
    have hv := txK_val i tds[i] (by omega) (hd2 _ (List.getElem_mem hil))
    have m := fr_mem (setP (txL sds)) (txTo tds i) tds[i]
    have hiff : (frP (setP (txL sds)) (txTo tds i)).1 tds[i] = true ↔ tds[i] ∈ sds ∨ tds[i] ∈ frR sds tds i := by
      rw [← ih, m.1, m.2, setP_iff sds hn hd]
      have := setP_iff sds hn hd tds[i]
      by_cases h : tds[i] ∈ sds
      · simp [h]
      · have h2 : setP (txL sds) tds[i] = false := by
          cases hb : setP (txL sds) tds[i] with
          | false => rfl
          | true => exact absurd (this.1 hb) h
        simp [h, h2]
    unfold frStep
    simp only [hv]
    unfold frR
    rw [e]
    by_cases h : tds[i] ∈ sds ∨ tds[i] ∈ frR sds tds i
    · rw [if_pos (hiff.2 h), if_pos h, ih]
    · rw [if_neg (fun h' => h (hiff.1 h')), if_neg h, ih]
theorem fresh_ref (sf tf : List Fl) (h1 : sf.length ≤ 1000) (h2 : ∀ x ∈ sf, x.data.length ≤ 100000) (h3 : tf.length ≤ 1000) (h4 : ∀ x ∈ tf, x.data.length ≤ 100000) : freshL sf tf = frR (sf.map Fl.data) (tf.map Fl.data) tf.length := by
  have d1 : ∀ x ∈ sf.map Fl.data, x.length ≤ 100000 := fun x hx => by obtain ⟨y, hy, rfl⟩ := List.mem_map.1 hx; exact h2 y hy
  have d2 : ∀ x ∈ tf.map Fl.data, x.length ≤ 100000 := fun x hx => by obtain ⟨y, hy, rfl⟩ := List.mem_map.1 hx; exact h4 y hy
  have := fr_ref (sf.map Fl.data) (tf.map Fl.data) (by simpa using h1) d1 (by simpa using h3) d2 tf.length (by simp)
  rw [← this]
  unfold freshL txL
  rw [show (tf.map Fl.data).length = tf.length from List.length_map _]
end Go.Mat
namespace Go.Proofs.Ytiglakhfkgeefaa
open Go.Pth Go.Tre Go.RowKit Go.Word Go.Shelf Go.Mat
attribute [local go_sem] guard_eq guard_ne st_eql st_neq
theorem getD_data' {gs : List Fl} {f : Nat} (h : f < gs.length) : (gs.map Fl.data).getD f [] = gs[f].data := by
  rw [List.getD_eq_getElem?_getD, List.getElem?_map, List.getElem?_eq_getElem h]
  rfl
/-- a row of rows of bytes, all of the call's own -/
def RfRow (W : World) (B : Nat) (v : Value) (out : List Bt) (D : Nat → Value) : Prop := W.ownsRow B 47 1 v out.length (lcells D out.length) ∧ ∀ i (h : i < out.length), OwnB W B (D i) out[i]
section
variable {W W' : World} {B : Nat} {v : Value} {out : List Bt} {D : Nat → Value}
theorem ownB_kept {l : Bt} {row : Option Nat} (h : OwnB W B v l) (hg : W.grownBy W' row) (hr : ∀ r, row = some r → ∃ cs t, W.heap[r]? = some (.cells cs t (0, 0)) ∧ t ≠ 5) : OwnB W' B v l :=
  h.kept hg (own_other h hr)
theorem rfRow_none (h : RfRow W B v out D) (hg : W.grownBy W' none) : RfRow W' B v out D :=
  ⟨h.1.kept hg (by cases v.ownBlock <;> simp), fun i hi => ownB_kept (h.2 i hi) hg (fun r e => by cases e)⟩
theorem rfRow_listQ (h : RfRow W B v out D) : ∃ C cc, v = .slice C out.length cc ∧ ListQ W C out :=
  listQ_of h.1 rfl (fun i hi => by
    obtain ⟨A, C, e, hb⟩ := own_bytes (h.2 i hi)
    exact ⟨A, C, by rw [lcells_at _ _ _ hi, e], hb⟩)
theorem rfRow_nil (W : World) (B : Nat) : RfRow W B (.slice none 0 0) [] (fun _ => undef) := ⟨World.ownsRow_nil _ _ _ _, fun i h => by cases h⟩
set_option maxRecDepth 100000 in
theorem rfRow_snoc (h : RfRow W B v out D) {d : Bt} {vb : Value} (hb : OwnB W B vb d) (hB : B ≤ W.heap.size) (hn : out.length ≤ 100000) : ∃ v' W2, (Builtin.append_ #[26, 26] 26 #[v, .slice (some ⟨W.heap.size, 0, none⟩) 1 1]).run Try.prog (W.alloc (.cells #[vb] 47)) = .ok v' W2 ∧
    RfRow W2 B v' (out ++ [d]) (fun i => if i = out.length then vb else D i) ∧ (W.alloc (.cells #[vb] 47)).grownBy W2 v.ownBlock ∧ ∀ b, v.ownBlock = some b → B ≤ b := by
  obtain ⟨i0, hi, hz0, hz1, hz2⟩ := info_parts bts_info
  have g1 := World.grownBy_alloc W (.cells #[vb] 47) none
  have h1 := rfRow_none h g1
  have hb1 := ownB_kept hb g1 (fun r e => by cases e)
  have L := lies_new W 47 #[vb]
  have o1 : vb.oneCell' = true := by obtain ⟨A, C, e⟩ := own_slice hb; rw [e]; rfl
  obtain ⟨v', W2, hr, ho, hg, _⟩ := run_append_own (P := Try.prog) (W.alloc (.cells #[vb] 47)) B 26 26 47 i0 _ 1 24 Try.underlying26 hi hz0 hz1 hz2 rfl (by decide) v out.length _ h1.1 ⟨W.heap.size, 0, none⟩ 1 1 [vb] rfl (fun q u hq => by
    match q, hq with
    | 0, hq => injection hq with hq; subst hq; exact lies_cell L 0
    | q + 1, hq => simp at hq) (fun u hu => by simp at hu; subst hu; exact o1) (by unfold maxLen; omega) (by omega) (by simp; omega)
  have hw : ∀ b, v.ownBlock = some b → B ≤ b := fun b e => (own_heap h.1 b e).1
  have hw1 : ∀ b, v.ownBlock = some b → ∃ cs t, (W.alloc (.cells #[vb] 47)).heap[b]? = some (.cells cs t (0, 0)) ∧ t ≠ 5 := fun b e => by
    obtain ⟨_, cs', e3⟩ := own_heap h1.1 b e
    exact ⟨cs', 47, e3, by decide⟩
  refine ⟨v', W2, hr, ⟨?_, fun i hi => ?_⟩, hg, hw⟩
  · rw [List.length_append, List.length_singleton]
    have e : lcells (fun i => if i = out.length then vb else D i) (out.length + 1) = lcells D out.length ++ [vb] := by
      unfold lcells
      rw [List.range_succ, List.map_append]
      congr 1
      · refine List.map_congr_left (fun i hi => ?_)
        have := List.mem_range.1 hi
        rw [if_neg (by omega)]
      · simp
    rw [e]
    exact ho
  · by_cases e : i = out.length
    · subst e
      show OwnB W2 B (if out.length = out.length then vb else D out.length) _
      rw [if_pos rfl, List.getElem_append_right (Nat.le_refl _)]
      simp only [Nat.sub_self, List.getElem_cons_zero]
      exact ownB_kept hb1 hg hw1
    · rw [List.length_append, List.length_singleton] at hi
      show OwnB W2 B (if i = out.length then vb else D i) _
      rw [if_neg e, List.getElem_append_left (by omega)]
      exact ownB_kept (h1.2 i (by omega)) hg hw1
end
/-- how the document's own Fresh ends -/
def RfE (B : Nat) (out : List Bt) (e : Ending) (W : World) : Prop := ∃ A C D, e = .returned (.slice A out.length C) ∧ RfRow W B (.slice A out.length C) out D
/-- what it keeps while it runs -/
structure RfI (w : World) (S T : Array Value) (V : Value) (out : List Bt) (W : World) : Prop where
  b : Below w.heap.size w W
  s : Lies W w.heap.size 25 S
  t : Lies W (w.heap.size + 1) 25 T
  o : ∃ D, RfRow W (w.heap.size + 2) V out D
  z : w.heap.size + 2 ≤ W.heap.size
theorem rfI_drew {w W : World} {S T : Array Value} {V : Value} {out : List Bt} (h : RfI w S T V out W) (q : Nat) : RfI w S T V out (W.drewN q) := by
  have hb : Below W.heap.size W (W.drewN q) := below_drewN (Below.refl _ _) _
  obtain ⟨D, hD⟩ := h.o
  exact ⟨below_drewN h.b q, lies_below h.s hb (lies_lt h.s), lies_below h.t hb (lies_lt h.t), ⟨D, rfRow_none hD ⟨rfl, rfl, rfl, Nat.le_refl _, fun _ _ _ => rfl⟩⟩, h.z⟩
/-- one content more -/
theorem rfI_more {w W : World} {S T : Array Value} {V : Value} {out : List Bt} (h : RfI w S T V out W) (DA : Option Addr) (dc : Nat) (d : Bt) (hd : BytesAt W DA d) (hl : d.length ≤ 100000) (hn : out.length ≤ 100000) :
    ∃ A C W1, (Builtin.append_ #[47, 47] 47 #[.slice none 0 0, .slice DA d.length dc]).run Try.prog W = .ok (.slice A d.length C) W1 ∧ ∃ A2 C2 W2, (Builtin.append_ #[26, 26] 26 #[V, .slice (some ⟨W1.heap.size, 0, none⟩) 1 1]).run Try.prog (W1.alloc (.cells #[.slice A d.length C] 47)) = .ok (.slice A2 (out.length + 1) C2) W2 ∧ RfI w S T (.slice A2 (out.length + 1) C2) (out ++ [d]) W2 := by
  obtain ⟨D, hD⟩ := h.o
  obtain ⟨vb, W1, r1, hb, g1⟩ := run_app_fresh W 47 DA dc d hd (by omega)
  obtain ⟨A, C, rfl⟩ := own_slice hb
  have hD1 := rfRow_none hD g1
  have z1 : w.heap.size + 2 ≤ W1.heap.size := Nat.le_trans h.z g1.size
  obtain ⟨v', W2, r2, hD2, g2, hv⟩ := rfRow_snoc hD1 (hb.mono h.z) z1 hn
  obtain ⟨A2, C2, e2⟩ := own_slice hD2.1
  rw [List.length_append, List.length_singleton] at e2
  subst e2
  have ga := World.grownBy_alloc W1 (.cells #[.slice A d.length C] 47) none
  have hw : ∀ b, V.ownBlock = some b → w.heap.size + 2 ≤ b := hv
  have bb : Below w.heap.size w W2 := by
    have b1 := h.b.grown g1 h.b.size (fun k e => by cases e)
    have b2 := b1.grown ga b1.size (fun k e => by cases e)
    exact b2.grown g2 b2.size (fun k e => by have := hw k e; omega)
  have kl : ∀ {g t cs}, g < w.heap.size + 2 → Lies W g t cs → Lies W2 g t cs := fun {g t cs} hg hL => by
    have l1 : Lies W1 g t cs := (g1.block g (lies_lt hL) (by simp)).trans hL
    have l2 := lies_alloc l1 (.cells #[.slice A d.length C] 47)
    exact (g2.block g (lies_lt l2) (fun e => by have := hw g e.symm; omega)).trans l2
  refine ⟨A, C, W1, r1, A2, C2, W2, r2, bb, kl (by omega) h.s, kl (by omega) h.t, ⟨_, hD2⟩, ?_⟩
  have := g2.size
  simp at this
  omega
set_option maxRecDepth 100000 in
set_option maxHeartbeats 16000000 in
theorem reffresh_any (NA FA MA GA : Option Addr) (nc fc mc gc n n2 : Nat) (fs gs : List Fl) (w : World) (hF : FilesAt w FA fs) (hG : FilesAt w GA gs) (h1 : fs.length ≤ 1000) (h3 : gs.length ≤ 1000) (h4 : ∀ x ∈ gs, x.data.length ≤ 100000) :
    Calls Try.prog 21 #[.agg #[.slice NA n nc, .slice FA fs.length fc], .agg #[.slice MA n2 mc, .slice GA gs.length gc]] w fun e w' => RfE w.heap.size (frR (fs.map Fl.data) (gs.map Fl.data) gs.length) e w' ∧ Below w.heap.size w w' := by
  have HFs := Lib.hid (fun (W : World) (h : Below w.heap.size w W) => filesAt_below hF h)
  have HGs := Lib.hid (fun (W : World) (h : Below w.heap.size w W) => filesAt_below hG h)
  have H4 := Lib.hid h4
  obtain ⟨m, hme⟩ : ∃ m, m = fs.length := ⟨_, rfl⟩
  obtain ⟨k, hke⟩ : ∃ k, k = gs.length := ⟨_, rfl⟩
  have ME := Lib.hid hme
  have KE := Lib.hid hke
  have hmB : m ≤ 1000 := by rw [hme]; exact h1
  have hkB : k ≤ 1000 := by rw [hke]; exact h3
  rw [← hme, ← hke]
  obtain ⟨sds, hsd⟩ : ∃ sds, sds = fs.map Fl.data := ⟨_, rfl⟩
  obtain ⟨tds, htd⟩ : ∃ tds, tds = gs.map Fl.data := ⟨_, rfl⟩
  have SD := Lib.hid hsd
  have TD := Lib.hid htd
  have SL := Lib.hid (show sds.length = m by rw [hsd, List.length_map]; exact hme.symm)
  rw [← hsd, ← htd]
  clear hF hG h1 h3 h4 hme hke hsd htd
  have RI0 := Lib.hid (show RfI w #[.slice NA n nc, .slice FA m fc] #[.slice MA n2 mc, .slice GA k gc] (.slice none 0 0) [] ((w.alloc (.cells #[.slice NA n nc, .slice FA m fc] 25)).alloc (.cells #[.slice MA n2 mc, .slice GA k gc] 25)) from by
    have L1 := lies_alloc (lies_new w 25 #[.slice NA n nc, .slice FA m fc]) (.cells #[.slice MA n2 mc, .slice GA k gc] 25)
    have L2 := lies_new (w.alloc (.cells #[.slice NA n nc, .slice FA m fc] 25)) 25 #[.slice MA n2 mc, .slice GA k gc]
    rw [World.size_alloc] at L2
    exact ⟨((Below.refl _ _).alloc (Nat.le_refl _) _).alloc (by simp) _, L1, L2, ⟨_, rfRow_nil _ _⟩, by simp⟩)
  go_enter Try.func21, Try.ntmps21
  go_upto_region 1 with (fail)
  generalize (w.alloc (.cells #[.slice NA n nc, .slice FA m fc] 25)).alloc (.cells #[.slice MA n2 mc, .slice GA k gc] 25) = X at *
  go_wp2
  go_loopw [5, 6] (fun v5 v6 wr => ∃ (i o C : Nat) (A : Option Addr), i ≤ k ∧ o = (frR sds tds i).length ∧ v5 = .slice A o C ∧ v6 = .int .i64 (i : Int) ∧ RfI w #[.slice NA n nc, .slice FA m fc] #[.slice MA n2 mc, .slice GA k gc] (.slice A o C) (frR sds tds i) wr) (fun _ v6 _ => k - (intOf v6).toNat)
  case atStart => exact ⟨0, 0, 0, none, Nat.zero_le _, rfl, rfl, rfl, RI0.out⟩
  case round =>
    obtain ⟨i, o, C, A, hi, ho, rfl, rfl, hR⟩ := hrel
    have OE := Lib.hid ho
    have RI := Lib.hid hR
    have OB := Lib.hid (frR_len sds tds i)
    have y0 := lies_cell hR.t 1
    simp only [List.getElem?_toArray, List.getElem?_cons_zero, List.getElem?_cons_succ] at y0
    clear ho hR RI0
    by_cases hlt : i < k
    · have li : (i : Int) < (k : Int) := by omega
      have lf : i < gs.length := by have := KE.out; omega
      obtain ⟨b2, o3, DB, db, eB, hl2, m2, d2, hby2⟩ := HGs.out wr RI.out.b i lf
      have TE := Lib.hid (show tds.getD i [] = gs[i].data by rw [TD.out]; exact getD_data' lf)
      have DLN := Lib.hid (H4.out gs[i] (List.getElem_mem lf))
      have NX := Lib.hid (show frR sds tds (i + 1) = if tds.getD i [] ∈ sds ∨ tds.getD i [] ∈ frR sds tds i then frR sds tds i else frR sds tds i ++ [tds.getD i []] from rfl)
      obtain ⟨d, hd⟩ : ∃ d, d = gs[i].data := ⟨_, rfl⟩
      rw [← hd] at d2 hby2 TE DLN
      rw [TE.out] at NX
      have D2 := Lib.hid d2
      have BY2 := Lib.hid hby2
      subst eB
      clear hd m2 d2 hby2 hl2
      generalize wr = W0 at *
      go_wp2
      go_loopw [7, 8] (fun v7 v8 wq => ∃ (g q : Nat) (F : Bool), g ≤ m ∧ v8 = .int .i64 (g : Int) ∧ v7 = .bool F ∧ ((F = true ∧ d ∈ sds) ∨ (F = false ∧ ∀ x, x < g → sds.getD x [] ≠ d)) ∧ wq = W0.drewN q) (fun _ v8 _ => m - (intOf v8).toNat)
      case atStart => exact ⟨0, 0, false, Nat.zero_le _, rfl, rfl, .inr ⟨rfl, fun x hx => by omega⟩, rfl⟩
      case round =>
        obtain ⟨g, q, F, hg, rfl, rfl, hFd, hw⟩ := hrel
        have FF := Lib.hid hFd
        have HQ := Lib.hid hw
        have RQ := Lib.hid (show RfI w #[.slice NA n nc, .slice FA m fc] #[.slice MA n2 mc, .slice (some ⟨b2, o3, none⟩) k gc] (.slice A o C) (frR sds tds i) wr from by rw [hw]; exact rfI_drew RI.out q)
        have z0 := lies_cell RQ.out.t 1
        have z1 := lies_cell RQ.out.s 1
        simp only [List.getElem?_toArray, List.getElem?_cons_zero, List.getElem?_cons_succ] at z0 z1
        clear hFd hw
        by_cases hg2 : g < m
        · have lg : (g : Int) < (m : Int) := by omega
          have lgf : g < fs.length := by have := ME.out; omega
          obtain ⟨b1, o1, DA, dc, eA, hl1, m1, d1, hby1⟩ := HFs.out wr RQ.out.b g lgf
          subst eA
          have TG := Lib.hid (show sds.getD g [] = fs[g].data by rw [SD.out]; exact getD_data' lgf)
          have y2 : wr.cell? ⟨b2, o3 + i * 2 + 1, none⟩ = some (.slice DB d.length db) := by rw [HQ.out]; exact D2.out
          have SA := fun q => Lib.hid (same_any DA DB dc db fs[g].data d (wr.drewN q) (bytesAt_below hby1 (below_drewN (Below.refl _ _) q)) (bytesAt_below BY2.out (by rw [HQ.out, World.drewN_drewN]; exact below_drewN (Below.refl _ _) _)))
          have MEM := Lib.hid (show fs[g].data = d → d ∈ sds from fun e => memD_iff.1 ⟨g, by rw [SL.out]; exact hg2, TG.out.trans e⟩)
          clear m1 hby1 hl1
          obtain ⟨x, hx⟩ : ∃ x, x = fs[g].data := ⟨_, rfl⟩
          rw [← hx] at d1 SA TG MEM
          clear hx
          generalize x.length = xl at *
          generalize d.length = dl at *
          by_cases he : x = d
          · have se : same x d = true := decide_eq_true he
            rw [se] at SA
            have NF := Lib.hid (MEM.out he)
            clear he se MEM
            go_upto_region 9 with (fail)
            go_quiet ((go_at_call 38; exact Calls.quiet_of (SA _).out))
            clear SA
            cases F with
            | true =>
              go_wp2
              go_roundw
              case rel => exact ⟨g + 1, q + nq, true, by omega, by go_num, rfl, .inl ⟨rfl, NF.out⟩, by rw [HQ.out, World.drewN_drewN]⟩
              case measure => first | (simp [intOf]; done) | (simp [intOf]; omega)
            | false =>
              go_wp2
              go_roundw
              case rel => exact ⟨g + 1, q + nq, true, by omega, by go_num, rfl, .inl ⟨rfl, NF.out⟩, by rw [HQ.out, World.drewN_drewN]⟩
              case measure => first | (simp [intOf]; done) | (simp [intOf]; omega)
          · have se : same x d = false := decide_eq_false he
            rw [se] at SA
            have NF := Lib.hid (show (F = true ∧ d ∈ sds) ∨ (F = false ∧ ∀ x, x < g + 1 → sds.getD x [] ≠ d) from by
              rcases FF.out with h | ⟨h1, h2⟩
              · exact .inl h
              · refine .inr ⟨h1, fun y hy => ?_⟩
                rcases Nat.lt_or_ge y g with h3 | h3
                · exact h2 y h3
                · obtain rfl : y = g := by omega
                  rw [TG.out]
                  exact he)
            clear he se MEM
            go_upto_region 9 with (fail)
            go_quiet ((go_at_call 38; exact Calls.quiet_of (SA _).out))
            clear SA FF
            cases F with
            | true =>
              go_wp2
              go_roundw
              case rel => exact ⟨g + 1, q + nq, true, by omega, by go_num, rfl, NF.out, by rw [HQ.out, World.drewN_drewN]⟩
              case measure => first | (simp [intOf]; done) | (simp [intOf]; omega)
            | false =>
              go_wp2
              go_roundw
              case rel => exact ⟨g + 1, q + nq, false, by omega, by go_num, rfl, NF.out, by rw [HQ.out, World.drewN_drewN]⟩
              case measure => first | (simp [intOf]; done) | (simp [intOf]; omega)
        · obtain rfl : g = m := by omega
          have lg : ¬ (g : Int) < (g : Int) := by omega
          rcases FF.out with ⟨hF1, hin⟩ | ⟨hF1, hno⟩
          · subst hF1
            have RN := Lib.hid (show frR sds tds (i + 1) = frR sds tds i by rw [NX.out, if_pos (.inl hin)])
            clear FF hin NX
            go_wp2
            go_roundw
            case rel => exact ⟨i + 1, o, C, A, by omega, by rw [RN.out]; exact OE.out, rfl, by go_num, by rw [RN.out]; exact RQ.out⟩
            case measure => first | (simp [intOf]; done) | (simp [intOf]; omega)
          · subst hF1
            have NI := Lib.hid (show d ∉ sds from fun h => by
              obtain ⟨j, hj, e⟩ := memD_iff.2 h
              rw [SL.out] at hj
              exact hno j hj e)
            have BY3 : BytesAt wr DB d := by rw [HQ.out]; exact bytesAt_below BY2.out (below_drewN (Below.refl _ _) _)
            have BY4 := Lib.hid BY3
            have y2 : wr.cell? ⟨b2, o3 + i * 2 + 1, none⟩ = some (.slice DB d.length db) := by rw [HQ.out]; exact D2.out
            have KC := Lib.hid (show Calls Try.prog 23 #[.slice A o C, .slice DB d.length db] wr fun e w' => e = .returned (.int .i64 (Stk.find (frR sds tds i) d)) ∧ ∃ m, w' = wr.drewN m from by
              obtain ⟨D, hD⟩ := RQ.out.o
              obtain ⟨A', C', e1, hq⟩ := rfRow_listQ hD
              have e2 := OE.out
              injection e1 with q1 q2 q3
              subst q1 q3
              rw [e2]
              exact reffind_any A DB C db (frR sds tds i) d wr hq BY3 (by have := OB.out; omega))
            clear FF hno BY3
            by_cases hf : d ∈ frR sds tds i
            · have RN := Lib.hid (show frR sds tds (i + 1) = frR sds tds i by rw [NX.out, if_pos (.inr hf)])
              rw [Stk.find_yes hf] at KC
              obtain ⟨fz, hfz⟩ : ∃ fz : Int, fz = (((frR sds tds i).idxOf d : Nat) : Int) := ⟨_, rfl⟩
              have nlt : ¬ fz < 0 := by omega
              rw [← hfz] at KC
              clear hf NX D2 BY2 HQ TE hfz
              generalize d.length = dl at *
              go_upto_region 11 with (fail)
              go_wp2_with (go_at_call 23; (with_reducible refine KC.out.mono ?_); rintro e w5 ⟨rfl, m5, hw5⟩)
              subst hw5
              go_roundw
              case rel => exact ⟨i + 1, o, C, A, by omega, by rw [RN.out]; exact OE.out, rfl, by go_num, by rw [RN.out]; exact rfI_drew RQ.out _⟩
              case measure => first | (simp [intOf]; done) | (simp [intOf]; omega)
            · have RN := Lib.hid (show frR sds tds (i + 1) = frR sds tds i ++ [d] by rw [NX.out, if_neg (by rintro (h | h); exact NI.out h; exact hf h)])
              rw [Stk.find_no hf] at KC
              clear hf NX D2 BY2 HQ TE
              have AP := Lib.hid (fun (m5 : Nat) => rfI_more (rfI_drew RQ.out m5) DB db d (bytesAt_below BY4.out (below_drewN (Below.refl _ _) _)) DLN.out (by have := OB.out; omega))
              rw [← OE.out] at AP
              have RNL := Lib.hid (show (frR sds tds (i + 1)).length = o + 1 by rw [RN.out, List.length_append, List.length_singleton, ← OE.out])
              clear BY4 DLN
              generalize d.length = dl at *
              go_upto_region 11 with (fail)
              go_upto_region 12 with (go_at_call 23; (with_reducible refine KC.out.mono ?_); rintro e w5 ⟨rfl, m5, hw5⟩; have HW5 := Lib.hid hw5; clear hw5)
              have hw5 := HW5.out
              have z2 : w5.cell? ⟨w.heap.size + 1, 1, none⟩ = some (.slice (some ⟨b2, o3, none⟩) k gc) := by subst hw5; exact z0
              have y3 : w5.cell? ⟨b2, o3 + i * 2 + 1, none⟩ = some (.slice DB dl db) := by subst hw5; exact y2
              obtain ⟨A3, C3, W1, r1, A2, C2, W2, r2, hI⟩ := AP.out m5
              rw [← hw5] at r1
              have HR1 := Lib.hid r1
              have HR2 := Lib.hid r2
              have HI := Lib.hid hI
              clear r1 r2 hI AP KC hw5 y2 z0 z1
              go_upto_region 4 with (first
                | (refine wpList_app_run (t1 := 47) (t2 := 47) rfl _ _ rfl rfl rfl HR1.out ?_)
                | (refine wpList_app_run (t1 := 26) (t2 := 26) rfl _ _ rfl rfl rfl HR2.out ?_))
              go_wp2
              go_roundw
              case rel => exact ⟨i + 1, o + 1, C2, A2, by omega, RNL.out.symm, rfl, by go_num, by rw [RN.out]; exact HI.out⟩
              case measure => first | (simp [intOf]; done) | (simp [intOf]; omega)
    · obtain rfl : i = k := by omega
      have li : ¬ (i : Int) < (i : Int) := by omega
      go_wp2
      go_ret
      obtain ⟨D, hD⟩ := RI.out.o
      have e2 := OE.out
      refine ⟨⟨A, C, D, by rw [← e2]; rfl, ?_⟩, RI.out.b⟩
      rw [← e2]
      exact ⟨hD.1.mono (by omega), fun i hi => (hD.2 i hi).mono (by omega)⟩
end Go.Proofs.Ytiglakhfkgeefaa
set_option linter.unusedSimpArgs false
set_option linter.unusedVariables false
namespace Go.Mat
open Go.Pth Go.Tre
theorem frR_mem (sds tds : List Bt) : ∀ i, i ≤ tds.length → ∀ x ∈ frR sds tds i, x ∈ tds
  | 0, _, x, hx => by cases hx
  | i + 1, hi, x, hx => by
    unfold frR at hx
    split at hx
    · exact frR_mem sds tds i (by omega) x hx
    · rcases List.mem_append.1 hx with h | h
      · exact frR_mem sds tds i (by omega) x h
      · rw [List.mem_singleton] at h
        rw [h, List.getD_eq_getElem?_getD, List.getElem?_eq_getElem hi, Option.getD_some]
        exact List.getElem_mem _
end Go.Mat
namespace Go.Proofs.Ytiglakhfkgeefaa
open Go.Pth Go.Tre Go.RowKit Go.Word Go.Shelf Go.Mat
attribute [local go_sem] guard_eq guard_ne st_eql st_neq
theorem below_grownQ {w w' : World} (hb : Below w.heap.size w w') : w.grownBy w' none := ⟨hb.os, hb.tape, hb.output, hb.size, fun i hi _ => hb.block i hi⟩
theorem grown_setQ (W : World) (b j : Nat) (v : Value) : W.grownBy (W.setCell ⟨b, j, none⟩ v) (some b) :=
  ⟨rfl, rfl, rfl, by simp [World.setCell], fun i _ hi => Below.heap_setCell W ⟨b, j, none⟩ v i (fun e => hi (by rw [e]))⟩
/-- a block of bytes of the call's own -/
def ByZ (W : World) (g n : Nat) : Prop := ∃ p cs, W.heap[g]? = some (.cells cs 5 (p, p + 1)) ∧ n ≤ p ∧ ∀ j, j < n → ∃ y : UInt8, cs[j]? = some (yB y)
section
variable {W W' : World} {B g n j : Nat} {v : Value} {l : Bt}
theorem byz_of (h : BytO W B v l) : ∃ g C, v = .slice (some ⟨g, 0, none⟩) l.length C ∧ B ≤ g ∧ ByZ W g l.length := by
  obtain ⟨g, C, p, cs, e, hB, hc, hp, hj⟩ := h
  exact ⟨g, C, e, hB, p, cs, hc, hp, fun j hl => ⟨_, hj j hl⟩⟩
theorem byz_lt (h : ByZ W g n) : g < W.heap.size := by
  obtain ⟨p, cs, hc, _⟩ := h
  exact (Array.getElem?_eq_some_iff.1 hc).1
theorem byz_cell (h : ByZ W g n) (hj : j < n) : ∃ y : UInt8, W.cell? ⟨g, j, none⟩ = some (yB y) ∧ W.frozen? ⟨g, j, none⟩ = false := by
  obtain ⟨p, cs, hc, hp, hy⟩ := h
  obtain ⟨y, e⟩ := hy j hj
  refine ⟨y, ?_, ?_⟩
  · unfold World.cell?
    simp [hc, e]
  · unfold World.frozen?
    simp [hc]
    omega
theorem byz_same (h : ByZ W g n) (e : W'.heap[g]? = W.heap[g]?) : ByZ W' g n := by
  obtain ⟨p, cs, hc, r⟩ := h
  exact ⟨p, cs, e.trans hc, r⟩
theorem byz_set (h : ByZ W g n) (j : Nat) (y : UInt8) : ByZ (W.setCell ⟨g, j, none⟩ (yB y)) g n := by
  obtain ⟨p, cs, hc, hp, hy⟩ := h
  refine ⟨p, cs.setIfInBounds j (yB y), ?_, hp, fun i hi => ?_⟩
  · show (W.heap.modify g _)[g]? = _
    rw [Array.getElem?_modify, if_pos rfl, hc]
    rfl
  · obtain ⟨z, hz⟩ := hy i hi
    rw [Array.getElem?_setIfInBounds]
    by_cases e : j = i
    · subst e
      have hl : j < cs.size := (Array.getElem?_eq_some_iff.1 hz).1
      rw [if_pos rfl, if_pos hl]
      exact ⟨y, rfl⟩
    · rw [if_neg e]
      exact ⟨z, hz⟩
theorem bytO_other (h : BytO W B v l) {q : Nat} (hne : v.ownBlock ≠ some q) (hb : ∀ k, k ≠ q → W'.heap[k]? = W.heap[k]?) : BytO W' B v l := by
  obtain ⟨g, C, p, cs, e, hB, hc, r⟩ := h
  refine ⟨g, C, p, cs, e, hB, (hb g (fun e2 => hne ?_)).trans hc, r⟩
  rw [e, e2]
  rfl
end
/-- what the law keeps while it spoils bytes -/
structure SpI (w8 : World) (N8 : Nat) (vf : Value) (F : Nat) (D E : Nat → Value) (fr : List Bt) (vr : Value) (N9 i : Nat) (W : World) : Prop where
  b : Below N8 w8 W
  sp : W.ownsRow N8 47 1 vf F (lcells D F)
  own : ∀ k (h : k < fr.length), i ≤ k → BytO W N8 (D k) fr[k]
  rf : RfRow W N9 vr fr E
section
variable {w8 W W' : World} {N8 F N9 i g : Nat} {vf vr : Value} {D E : Nat → Value} {fr : List Bt}
theorem spI_drew (h : SpI w8 N8 vf F D E fr vr N9 i W) (q : Nat) : SpI w8 N8 vf F D E fr vr N9 i (W.drewN q) :=
  ⟨below_drewN h.b q, h.sp.kept (row := none) ⟨rfl, rfl, rfl, Nat.le_refl _, fun _ _ _ => rfl⟩ (by cases vf.ownBlock <;> simp), fun k hk hi => h.own k hk hi, rfRow_none h.rf ⟨rfl, rfl, rfl, Nat.le_refl _, fun _ _ _ => rfl⟩⟩
theorem spI_drew1 (h : SpI w8 N8 vf F D E fr vr N9 i W) : SpI w8 N8 vf F D E fr vr N9 i W.drew :=
  ⟨h.b.drew, h.sp.kept (row := none) ⟨rfl, rfl, rfl, Nat.le_refl _, fun _ _ _ => rfl⟩ (by cases vf.ownBlock <;> simp), fun k hk hi => h.own k hk hi, rfRow_none h.rf ⟨rfl, rfl, rfl, Nat.le_refl _, fun _ _ _ => rfl⟩⟩
theorem spI_next (h : SpI w8 N8 vf F D E fr vr N9 i W) : SpI w8 N8 vf F D E fr vr N9 (i + 1) W := ⟨h.b, h.sp, fun k hk hi => h.own k hk (by omega), h.rf⟩
theorem spI_set (h : SpI w8 N8 vf F D E fr vr N9 i W) {n : Nat} (hz : ByZ W g n) (h8 : N8 ≤ g) (h9 : g < N9) (hF : F = fr.length) (hne : ∀ k, i ≤ k → k < F → (D k).ownBlock ≠ some g) (j : Nat) (y : UInt8) : SpI w8 N8 vf F D E fr vr N9 i (W.setCell ⟨g, j, none⟩ (yB y)) := by
  have hg := grown_setQ W g j (yB y)
  obtain ⟨p, cs, hc, _⟩ := hz
  have hb : ∀ k, k ≠ g → (W.setCell ⟨g, j, none⟩ (yB y)).heap[k]? = W.heap[k]? := fun k hk => Below.heap_setCell W ⟨g, j, none⟩ (yB y) k hk
  refine ⟨below_setCell h.b (p := ⟨g, j, none⟩) h8 _, h.sp.kept hg ?_, fun k hk hi => bytO_other (h.own k hk hi) (hne k hi (by omega)) hb, ⟨h.rf.1.kept hg ?_, fun k hk => (h.rf.2 k hk).kept hg ?_⟩⟩
  · cases hv : vf.ownBlock with
    | none => exact .inl rfl
    | some b =>
      refine .inr (fun e => ?_)
      injection e with e
      subst e
      obtain ⟨_, cs2, h2⟩ := own_heap h.sp b hv
      rw [hc] at h2
      cases h2
  · cases hv : vr.ownBlock with
    | none => exact .inl rfl
    | some b =>
      refine .inr (fun e => ?_)
      injection e with e
      have := (own_heap h.rf.1 b hv).1
      omega
  · cases hv : (E k).ownBlock with
    | none => exact .inl rfl
    | some b =>
      refine .inr (fun e => ?_)
      injection e with e
      have := (own_heap (h.rf.2 k hk) b hv).1
      omega
end
/-- a row of sources, or none -/
def MatV (E : Int) (n : Nat) (L : List Sr) (v : Value) (W : World) : Prop := (E ≠ 0 → v = .slice none 0 0) ∧ (E = 0 → ∃ g, v = .slice (some ⟨g, 0, none⟩) n n ∧ SrcR W g L)
theorem matV_below {E : Int} {n : Nat} {L : List Sr} {v : Value} {W W' : World} (h : MatV E n L v W) (hb : Below W.heap.size W W') : MatV E n L v W' :=
  ⟨h.1, fun e => by obtain ⟨g, e1, h1⟩ := h.2 e; exact ⟨g, e1, srcR_below h1 (Nat.le_refl _) hb⟩⟩
set_option maxRecDepth 100000 in
theorem sames_nil (w : World) : Calls Try.prog 19 #[.slice none 0 0, .slice none 0 0] w fun e w' => e = .returned (.bool true) ∧ Below w.heap.size w w' := by
  go_enter Try.func19, Try.ntmps19
  go_wp2
  go_loopw [5] (fun v5 wr => v5 = .int .i64 0 ∧ Below w.heap.size w wr) (fun _ _ => 0)
  case atStart => exact ⟨rfl, Below.refl _ _⟩
  case round =>
    obtain ⟨rfl, hb⟩ := hrel
    have HB := Lib.hid hb
    clear hb
    go_wp2
    go_ret
    exact ⟨rfl, HB.out⟩
theorem sames_v {E : Int} {n : Nat} {L : List Sr} {v1 v2 : Value} {w : World} (hL : L.length = n) (hn : n ≤ 1000000) (h1 : MatV E n L v1 w) (h2 : MatV E n L v2 w) : Calls Try.prog 19 #[v1, v2] w fun e w' => e = .returned (.bool true) ∧ Below w.heap.size w w' := by
  by_cases e : E = 0
  · obtain ⟨g1, rfl, a1⟩ := h1.2 e
    obtain ⟨g2, rfl, a2⟩ := h2.2 e
    rw [← hL]
    exact sames_any g1 g2 _ _ L w a1 a2 (by omega)
  · rw [h1.1 e, h2.1 e]
    exact sames_nil w
theorem lentF_below {w w' : World} {B : Nat} {A : Option Addr} {C : Nat} {cs : List Bt} (h : K.LentF w B A C cs) (hb : Below w.heap.size w w') : K.LentF w' B A C cs := by
  obtain ⟨xs, G, hr, hG, hx, he⟩ := h
  have hg := below_grownQ hb
  have lg : G < w.heap.size := by
    rcases Nat.lt_or_ge G w.heap.size with h1 | h1
    · exact h1
    · unfold World.cell? at hG
      rw [Array.getElem?_eq_none h1] at hG
      cases hG
  exact ⟨xs, G, hr.kept hg (by cases (Value.slice A (cs.length + 1) C).ownBlock <;> simp), (hb.cell (p := ⟨G, 0, none⟩) lg).trans hG, hx, fun i hi => by obtain ⟨x, e, hd⟩ := he i hi; exact ⟨x, e, K.lentD_grown hd hg⟩⟩
theorem lentF_list {w : World} {B : Nat} {A : Option Addr} {C : Nat} {cs : List Bt} (h : K.LentF w B A C cs) : ListQ w A cs := fun i hi => by
  obtain ⟨g, rfl, _, hl, _, _, h5⟩ := K.lentF_parts h
  obtain ⟨gi, ci, h6, _, h8⟩ := h5 i hi
  refine ⟨g, 0, some ⟨gi, 0, none⟩, ci, rfl, hl, by rw [Nat.zero_add]; exact h6, fun j hj => ?_⟩
  obtain ⟨b, o, e, hl2, hc⟩ := h8 j (by rw [List.length_append]; simp; omega)
  refine ⟨b, o, e, hl2, ?_⟩
  rw [hc, List.getElem_append_left hj]
/-- what the law has lent out -/
structure SyW (w : World) (P : Array Value) (A1 A2 D1 D2 KA : Option Addr) (c1 c2 e1 e2 KC BK gS gT : Nat) (ns ms : List Nd) (fs gs : List Fl) (ls : List Bt) (W : World) : Prop where
  b : Below w.heap.size w W
  l : Lies W w.heap.size 28 P
  s : LentAt W A1 c1 A2 c2 ns fs
  t : LentAt W D1 e1 D2 e2 ms gs
  k : K.LentF W BK KA KC ls
  ls : Lies W gS 25 #[.slice A1 ns.length c1, .slice A2 fs.length c2]
  lt : Lies W gT 25 #[.slice D1 ms.length e1, .slice D2 gs.length e2]
theorem syW_below {w W W' : World} {P : Array Value} {A1 A2 D1 D2 KA : Option Addr} {c1 c2 e1 e2 KC BK gS gT : Nat} {ns ms : List Nd} {fs gs : List Fl} {ls : List Bt} (h : SyW w P A1 A2 D1 D2 KA c1 c2 e1 e2 KC BK gS gT ns ms fs gs ls W) (hb : Below W.heap.size W W') : SyW w P A1 A2 D1 D2 KA c1 c2 e1 e2 KC BK gS gT ns ms fs gs ls W' :=
  ⟨h.b.trans (hb.mono h.b.size), lies_below h.l hb (lies_lt h.l), lent_below h.s hb, lent_below h.t hb, lentF_below h.k hb, lies_below h.ls hb (lies_lt h.ls), lies_below h.lt hb (lies_lt h.lt)⟩
theorem xor255_byte (c : UInt8) : bits .xor .u8 (c.toNat : Int) 255 = ((c ^^^ 255).toNat : Int) := by
  have hx : bits .xor .u8 (c.toNat : Int) 255 = IntKind.u8.wrap ((BitVec.ofInt 8 (c.toNat : Int) ^^^ BitVec.ofInt 8 255).toNat : Int) := rfl
  have hc := c.toNat_lt
  have h1 : (BitVec.ofInt 8 (c.toNat : Int)).toNat = c.toNat := by
    rw [BitVec.ofInt_natCast, BitVec.toNat_ofNat]; exact Nat.mod_eq_of_lt (by omega)
  have h2 : c.toNat ^^^ 255 < 2 ^ 8 := Nat.xor_lt_two_pow (by omega) (by omega)
  rw [hx, BitVec.toNat_xor, h1, UInt8.toNat_xor]
  show IntKind.u8.wrap ((c.toNat ^^^ 255 : Nat) : Int) = ((c.toNat ^^^ 255 : Nat) : Int)
  simp only [IntKind.wrap, IntKind.bits, IntKind.signed]
  simp
  omega
theorem add_zero' (a : Addr) : a.add 0 = a := by unfold Addr.add; simp
theorem store_one (P : Program) (w : World) (a : Addr) (v : Value) (hv : v.oneCell' = true) : (storeCells a [v]).run P w = stored P w a v .plain := by
  unfold storeCells
  rw [Sem.run_bind, add_zero', run_store P w a v .plain hv]
  unfold storeCells stored
  cases w.cell? a with
  | none => cases w.farStore P a v ((Mode.plain) == .atomic) <;> rfl
  | some u => by_cases h : w.frozen? a = true <;> simp [h]
theorem store_yB (P : Program) (w : World) (a : Addr) (x : UInt8) : (storeCells a [yB x]).run P w = stored P w a (yB x) .plain := store_one P w a _ rfl
theorem xor_yB (x : UInt8) : binOp .xor 5 (yB x) (.int .u8 255) = pure (yB (x ^^^ 255)) := by
  have h : binOp .xor 5 (yB x) (.int .u8 255) = pure (.int .u8 (bits .xor .u8 (x.toNat : Int) 255)) := rfl
  rw [h, xor255_byte]
  rfl
end Go.Proofs.Ytiglakhfkgeefaa
set_option linter.unusedSimpArgs false
set_option linter.unusedVariables false
namespace Go.Proofs.Ytiglakhfkgeefaa
open Go.Pth Go.Tre Go.RowKit Go.Word Go.Shelf Go.Mat
attribute [local go_sem] guard_eq guard_ne st_eql st_neq xor_yB
set_option maxRecDepth 100000 in
set_option maxHeartbeats 16000000 in
theorem says_law (NA FA MA GA LA : Option Addr) (nc fc mc gc lc : Nat) (ns ms : List Nd) (fs gs : List Fl) (ls : List Bt) (w : World) (hN : NodesAt w NA ns) (hF : FilesAt w FA fs) (hM : NodesAt w MA ms) (hG : FilesAt w GA gs) (hL : ListQ w LA ls)
    (h1 : Fits ns fs) (h2 : Fits ms gs) (h3 : FitsL ls) :
    Calls Try.prog 3 #[.agg #[.slice NA ns.length nc, .slice FA fs.length fc, .slice MA ms.length mc, .slice GA gs.length gc, .slice LA ls.length lc]] w fun e w' => e = .returned (.bool true) ∧ Below w.heap.size w w' := by
  have KM := Lib.hid (fun (W : World) (h : Below w.heap.size w W) => much_any NA FA MA GA LA nc fc mc gc lc ns ms fs gs ls W (nodesAt_below hN h) (filesAt_below hF h) (nodesAt_below hM h) (filesAt_below hG h) (listQ_below hL h) h1 h2 h3)
  have HNs := Lib.hid (fun (W : World) (h : Below w.heap.size w W) => nodesAt_below hN h)
  have HFs := Lib.hid (fun (W : World) (h : Below w.heap.size w W) => filesAt_below hF h)
  have HMs := Lib.hid (fun (W : World) (h : Below w.heap.size w W) => nodesAt_below hM h)
  have HGs := Lib.hid (fun (W : World) (h : Below w.heap.size w W) => filesAt_below hG h)
  have HLs := Lib.hid (fun (W : World) (h : Below w.heap.size w W) => listQ_below hL h)
  have KL1 := Lib.hid (fun (W : World) (h : Below w.heap.size w W) (hs : Small ns fs) => lent_any NA FA nc fc ns fs W (nodesAt_below hN h) (filesAt_below hF h) (by have := hs.1; omega) (by have := hs.2.1; omega) (fun x hx => by have := hs.2.2.2 x hx; omega))
  have KL2 := Lib.hid (fun (W : World) (h : Below w.heap.size w W) (hs : Small ms gs) => lent_any MA GA mc gc ms gs W (nodesAt_below hM h) (filesAt_below hG h) (by have := hs.1; omega) (by have := hs.2.1; omega) (fun x hx => by have := hs.2.2.2 x hx; omega))
  have KL3 := Lib.hid (fun (W : World) (h : Below w.heap.size w W) (hs : SmallL ls) => K.lentl_any LA lc ls W (listQ_below hL h) (by have := hs.1; omega) (fun x hx => by have := hs.2 x hx; omega))
  have KR := Lib.hid (fun (W : World) (h : Below w.heap.size w W) (hs : Small ns fs) (ht : Small ms gs) (hl : SmallL ls) => refmatch_any NA FA MA GA LA nc fc mc gc lc ns ms fs gs ls W (nodesAt_below hN h) (filesAt_below hF h) (nodesAt_below hM h) (filesAt_below hG h) (listQ_below hL h) hs ht hl)
  have KC1 := Lib.hid (fun (W : World) (h : Below w.heap.size w W) (hs : Small ns fs) => check_ref NA FA nc fc ns fs W (nodesAt_below hN h) (filesAt_below hF h) (fun x hx => by have := hs.2.2.1 x hx; omega))
  have KC2 := Lib.hid (fun (W : World) (h : Below w.heap.size w W) (hs : Small ms gs) => check_ref MA GA mc gc ms gs W (nodesAt_below hM h) (filesAt_below hG h) (fun x hx => by have := hs.2.2.1 x hx; omega))
  have KFR := Lib.hid (fun (W : World) (h : Below w.heap.size w W) (hs : Small ns fs) (ht : Small ms gs) => reffresh_any NA FA MA GA nc fc mc gc ns.length ms.length fs gs W (filesAt_below hF h) (filesAt_below hG h) (by have := hs.2.1; omega) (by have := ht.2.1; omega) (fun x hx => by have := ht.2.2.2 x hx; omega))
  have FRE := Lib.hid (fun (hs : Small ns fs) (ht : Small ms gs) => fresh_ref fs gs (by have := hs.2.1; omega) (fun x hx => by have := hs.2.2.2 x hx; omega) (by have := ht.2.1; omega) (fun x hx => by have := ht.2.2.2 x hx; omega))
  have MLL := Lib.hid (matchL_len ns ms fs gs ls)
  generalize hn : ns.length = n at *
  generalize hm : fs.length = m at *
  generalize hn2 : ms.length = n2 at *
  generalize hm2 : gs.length = m2 at *
  generalize hk : ls.length = k at *
  have NE := Lib.hid hn
  have ME := Lib.hid hm
  have NE2 := Lib.hid hn2
  have ME2 := Lib.hid hm2
  have LE := Lib.hid hk
  clear hN hF hM hG hL h1 h2 h3 hn hm hn2 hm2 hk
  have B0 := Lib.hid (show Below w.heap.size w (w.alloc (.cells #[.slice NA n nc, .slice FA m fc, .slice MA n2 mc, .slice GA m2 gc, .slice LA k lc] 28)) from (Below.refl _ _).alloc (Nat.le_refl _) _)
  have LX := Lib.hid (lies_new w 28 #[.slice NA n nc, .slice FA m fc, .slice MA n2 mc, .slice GA m2 gc, .slice LA k lc])
  go_enter Try.func3, Try.ntmps3
  go_upto_region 1 with (fail)
  generalize w.alloc (.cells #[.slice NA n nc, .slice FA m fc, .slice MA n2 mc, .slice GA m2 gc, .slice LA k lc] 28) = X at *
  have R5 : ∀ W, Lies W w.heap.size 28 #[.slice NA n nc, .slice FA m fc, .slice MA n2 mc, .slice GA m2 gc, .slice LA k lc] → Hid (W.rangeAt w.heap.size 0 [.slice NA n nc, .slice FA m fc, .slice MA n2 mc, .slice GA m2 gc, .slice LA k lc]) := fun W h => Lib.hid (five_range h)
  go_upto_region 2 with (go_at_call 9; (with_reducible refine (alive_any _).mono ?_); rintro e w1 ⟨rfl, hb⟩; have B1 := Lib.hid (B0.out.trans (hb.mono B0.out.size)); have L1 := Lib.hid (lies_below LX.out hb (lies_lt LX.out)); have Q1 := R5 _ L1.out; clear hb)
  go_upto_region 3 with (first
    | (refine wpList_load_mid rfl 28 _ rfl w.heap.size 0 rfl [.slice NA n nc, .slice FA m fc, .slice MA n2 mc, .slice GA m2 gc, .slice LA k lc] _ Q1.out Try.underlying28 rfl (by kernel_rfl) ?_)
    | (go_at_call 10; (with_reducible refine (KM.out _ B1.out).mono ?_); rintro e w2 ⟨⟨b, rfl, hs⟩, hb⟩; have B2 := Lib.hid (B1.out.trans (hb.mono B1.out.size)); have L2 := Lib.hid (lies_below L1.out hb (lies_lt L1.out)); have SB := Lib.hid hs; clear hb hs Q1))
  cases b with
  | true =>
    go_wp2
    go_ret
    exact ⟨rfl, B2.out⟩
  | false =>
    have S1 := Lib.hid (SB.out rfl)
    clear SB KM B0 B1 L1 LX R5
    have P2 := Lib.hid (pair_range L2.out)
    go_upto_region 5 with (fail)
    go_upto_region 6 with (first
      | (refine wpList_load_mid rfl 25 _ rfl w.heap.size 0 rfl [.slice NA n nc, .slice FA m fc] _ P2.out.1 Try.underlying25 rfl (by kernel_rfl) ?_)
      | (go_at_call 11; (with_reducible refine (KL1.out w2 B2.out S1.out.1).mono ?_); rintro e w3 ⟨⟨A1, c1, A2, c2, rfl, hla⟩, hb⟩; have B3 := Lib.hid (B2.out.trans (hb.mono B2.out.size)); have L3 := Lib.hid (lies_below L2.out hb (lies_lt L2.out)); have SA3 := Lib.hid hla; have LN := Lib.hid (lies_new w3 25 #[.slice none 0 0, .slice none 0 0]); have ES := Lib.hid (setRow_alloc w3 25 #[.slice none 0 0, .slice none 0 0] #[.slice A1 n c1, .slice A2 m c2]); clear hb hla)
      | (refine wpList_store_row rfl 25 _ _ rfl w3.heap.size #[.slice A1 n c1, .slice A2 m c2] rfl rfl 25 _ LN.out (by kernel_rfl) rfl (by simp [Value.oneCell']) ?_; rw [ES.out]))
    have hbA : Below w3.heap.size w3 (w3.alloc (.cells #[.slice A1 n c1, .slice A2 m c2] 25)) := (Below.refl _ _).alloc (Nat.le_refl _) _
    have B4 := Lib.hid (B3.out.trans (hbA.mono B3.out.size))
    have L4 := Lib.hid (lies_below L3.out hbA (lies_lt L3.out))
    have SA4 := Lib.hid (lent_below SA3.out hbA)
    have GS4 := Lib.hid (lies_new w3 25 #[.slice A1 n c1, .slice A2 m c2])
    clear LN ES hbA B3 L3 SA3 P2 L2 B2
    obtain ⟨gS, hgS⟩ : ∃ gS, gS = w3.heap.size := ⟨_, rfl⟩
    rw [← hgS] at GS4
    rw [← hgS]
    clear hgS
    generalize w3.alloc (.cells #[.slice A1 n c1, .slice A2 m c2] 25) = w4 at *
    have P4 := Lib.hid (pair_range L4.out)
    go_upto_region 7 with (first
      | (refine wpList_load_mid rfl 25 _ rfl w.heap.size 2 rfl [.slice MA n2 mc, .slice GA m2 gc] _ P4.out.2.1 Try.underlying25 rfl (by kernel_rfl) ?_)
      | (go_at_call 11; (with_reducible refine (KL2.out w4 B4.out S1.out.2.1).mono ?_); rintro e w5 ⟨⟨D1, e1, D2, e2, rfl, hla⟩, hb⟩; have B5 := Lib.hid (B4.out.trans (hb.mono B4.out.size)); have L5 := Lib.hid (lies_below L4.out hb (lies_lt L4.out)); have SA5 := Lib.hid (lent_below SA4.out hb); have GS5 := Lib.hid (lies_below GS4.out hb (lies_lt GS4.out)); have TA5 := Lib.hid hla; have LN := Lib.hid (lies_new w5 25 #[.slice none 0 0, .slice none 0 0]); have ES := Lib.hid (setRow_alloc w5 25 #[.slice none 0 0, .slice none 0 0] #[.slice D1 n2 e1, .slice D2 m2 e2]); clear hb hla)
      | (refine wpList_store_row rfl 25 _ _ rfl w5.heap.size #[.slice D1 n2 e1, .slice D2 m2 e2] rfl rfl 25 _ LN.out (by kernel_rfl) rfl (by simp [Value.oneCell']) ?_; rw [ES.out]))
    have hbB : Below w5.heap.size w5 (w5.alloc (.cells #[.slice D1 n2 e1, .slice D2 m2 e2] 25)) := (Below.refl _ _).alloc (Nat.le_refl _) _
    have B6 := Lib.hid (B5.out.trans (hbB.mono B5.out.size))
    have L6 := Lib.hid (lies_below L5.out hbB (lies_lt L5.out))
    have SA6 := Lib.hid (lent_below SA5.out hbB)
    have TA6 := Lib.hid (lent_below TA5.out hbB)
    have GS6 := Lib.hid (lies_below GS5.out hbB (lies_lt GS5.out))
    have GT6 := Lib.hid (lies_new w5 25 #[.slice D1 n2 e1, .slice D2 m2 e2])
    clear LN ES hbB B5 L5 SA5 TA5 GS5 P4 L4 B4 SA4 GS4
    obtain ⟨gT, hgT⟩ : ∃ gT, gT = w5.heap.size := ⟨_, rfl⟩
    rw [← hgT] at GT6
    rw [← hgT]
    clear hgT
    generalize w5.alloc (.cells #[.slice D1 n2 e1, .slice D2 m2 e2] 25) = w6 at *
    have y4 := lies_cell L6.out 4
    simp only [List.getElem?_toArray, List.getElem?_cons_zero, List.getElem?_cons_succ] at y4
    go_upto_region 8 with (go_at_call 12; (with_reducible refine (KL3.out w6 B6.out S1.out.2.2).mono ?_); rintro e w7 ⟨⟨KA, KC, rfl, hla⟩, hb⟩; have SW7 := Lib.hid (show SyW w #[.slice NA n nc, .slice FA m fc, .slice MA n2 mc, .slice GA m2 gc, .slice LA k lc] A1 A2 D1 D2 KA c1 c2 e1 e2 KC w6.heap.size gS gT ns ms fs gs ls w7 from ⟨B6.out.trans (hb.mono B6.out.size), lies_below L6.out hb (lies_lt L6.out), lent_below SA6.out hb, lent_below TA6.out hb, hla, by rw [NE.out, ME.out]; exact lies_below GS6.out hb (lies_lt GS6.out), by rw [NE2.out, ME2.out]; exact lies_below GT6.out hb (lies_lt GT6.out)⟩); clear hb hla)
    clear y4 B6 L6 SA6 TA6 GS6 GT6
    generalize w6.heap.size = BK at *
    obtain ⟨E, hE⟩ : ∃ E, E = errM ns fs ms gs ls := ⟨_, rfl⟩
    have EE := Lib.hid hE
    obtain ⟨P, hP⟩ : ∃ P, P = pairE ns fs ms gs := ⟨_, rfl⟩
    have PE := Lib.hid hP
    clear hE hP
    have KMT := Lib.hid (show ∀ W, SyW w #[.slice NA n nc, .slice FA m fc, .slice MA n2 mc, .slice GA m2 gc, .slice LA k lc] A1 A2 D1 D2 KA c1 c2 e1 e2 KC BK gS gT ns ms fs gs ls W → Calls Try.prog 13 #[.agg #[.slice A1 n c1, .slice A2 m c2], .agg #[.slice D1 n2 e1, .slice D2 m2 e2], .slice KA k KC] W fun e W' => (∃ v, e = .returned (.tuple #[v, .int .i64 E]) ∧ MatV E m2 (matchL ns fs ms gs ls).1 v W') ∧ Below W.heap.size W W' from fun W h => by
      have := match_small A1 A2 D1 D2 KA c1 c2 e1 e2 KC ns ms fs gs ls W (lent_nodes h.s) (lent_files h.s) (lent_nodes h.t) (lent_files h.t) (lentF_list h.k) S1.out.1 S1.out.2.1 (by have := S1.out.2.2.1; omega) (fun x hx => by have := S1.out.2.2.2 x hx; omega)
      rw [NE.out, ME.out, NE2.out, ME2.out, LE.out, ← EE.out] at this
      exact this.mono fun e W' ⟨v, h1, h2, h3, h4⟩ => ⟨⟨v, h1, h2, h3⟩, h4⟩)
    have KFS := Lib.hid (show ∀ W, SyW w #[.slice NA n nc, .slice FA m fc, .slice MA n2 mc, .slice GA m2 gc, .slice LA k lc] A1 A2 D1 D2 KA c1 c2 e1 e2 KC BK gS gT ns ms fs gs ls W → Calls Try.prog 14 #[.agg #[.slice A1 n c1, .slice A2 m c2], .agg #[.slice D1 n2 e1, .slice D2 m2 e2]] W fun e W' => (∃ v, e = .returned (.tuple #[v, .int .i64 P]) ∧ (P ≠ 0 → v = .slice none 0 0) ∧ (P = 0 → ∃ D, FrRow W' W.heap.size v (freshL fs gs) D)) ∧ Below W.heap.size W W' from fun W h => by
      have := fresh_small A1 A2 D1 D2 c1 c2 e1 e2 ns ms fs gs W (lent_nodes h.s) (lent_files h.s) (lent_nodes h.t) (lent_files h.t) S1.out.1 S1.out.2.1
      rw [NE.out, ME.out, NE2.out, ME2.out, ← PE.out] at this
      exact this.mono fun e W' ⟨v, h1, h2, h3, h4⟩ => ⟨⟨v, h1, h2, h3⟩, h4⟩)
    have KS1 := Lib.hid (show ∀ W, SyW w #[.slice NA n nc, .slice FA m fc, .slice MA n2 mc, .slice GA m2 gc, .slice LA k lc] A1 A2 D1 D2 KA c1 c2 e1 e2 KC BK gS gT ns ms fs gs ls W → Calls Try.prog 15 #[.agg #[.slice A1 n c1, .slice A2 m c2], .agg #[.slice NA n nc, .slice FA m fc]] W fun e W' => e = .returned (.bool true) ∧ Below W.heap.size W W' from fun W h => by
      have := stays_any A1 A2 NA FA c1 c2 nc fc ns fs W h.s (HNs.out W h.b) (HFs.out W h.b) (by have := S1.out.1.1; omega) (by have := S1.out.1.2.1; omega) (fun x hx => by have := S1.out.1.2.2.2 x hx; omega)
      rwa [NE.out, ME.out] at this)
    have KS2 := Lib.hid (show ∀ W, Below w.heap.size w W → LentAt W D1 e1 D2 e2 ms gs → Calls Try.prog 15 #[.agg #[.slice D1 n2 e1, .slice D2 m2 e2], .agg #[.slice MA n2 mc, .slice GA m2 gc]] W fun e W' => e = .returned (.bool true) ∧ Below W.heap.size W W' from fun W hb ht => by
      have := stays_any D1 D2 MA GA e1 e2 mc gc ms gs W ht (HMs.out W hb) (HGs.out W hb) (by have := S1.out.2.1.1; omega) (by have := S1.out.2.1.2.1; omega) (fun x hx => by have := S1.out.2.1.2.2.2 x hx; omega)
      rwa [NE2.out, ME2.out] at this)
    have KS3 := Lib.hid (show ∀ W, SyW w #[.slice NA n nc, .slice FA m fc, .slice MA n2 mc, .slice GA m2 gc, .slice LA k lc] A1 A2 D1 D2 KA c1 c2 e1 e2 KC BK gS gT ns ms fs gs ls W → Calls Try.prog 16 #[.slice KA k KC, .slice LA k lc] W fun e W' => e = .returned (.bool true) ∧ ∃ m, W' = W.drewN m from fun W h => by
      have := K.stay_any BK KA LA KC lc ls W h.k (HLs.out W h.b) (by have := S1.out.2.2.1; omega) (fun x hx => by have := S1.out.2.2.2 x hx; omega)
      rwa [LE.out] at this)
    have SR := fun (W : World) (h : SyW w #[.slice NA n nc, .slice FA m fc, .slice MA n2 mc, .slice GA m2 gc, .slice LA k lc] A1 A2 D1 D2 KA c1 c2 e1 e2 KC BK gS gT ns ms fs gs ls W) => Lib.hid (show W.rangeAt gS 0 [.slice A1 n c1, .slice A2 m c2] ∧ W.rangeAt gT 0 [.slice D1 n2 e1, .slice D2 m2 e2] from ⟨by have := h.ls; rw [NE.out, ME.out] at this; exact rng2 this, by have := h.lt; rw [NE2.out, ME2.out] at this; exact rng2 this⟩)
    have CT := fun (W : World) (h : SyW w #[.slice NA n nc, .slice FA m fc, .slice MA n2 mc, .slice GA m2 gc, .slice LA k lc] A1 A2 D1 D2 KA c1 c2 e1 e2 KC BK gS gT ns ms fs gs ls W) => Lib.hid (show W.cell? ⟨gT, 0, none⟩ = some (.slice D1 n2 e1) ∧ W.cell? ⟨gT, 1, none⟩ = some (.slice D2 m2 e2) ∧ W.cell? ⟨w.heap.size, 2, none⟩ = some (.slice MA n2 mc) ∧ W.cell? ⟨w.heap.size, 3, none⟩ = some (.slice GA m2 gc) ∧ W.cell? ⟨w.heap.size, 4, none⟩ = some (.slice LA k lc) from ⟨by have := lies_cell h.lt 0; rw [NE2.out] at this; exact this, by have := lies_cell h.lt 1; rw [ME2.out] at this; exact this, lies_cell h.l 2, lies_cell h.l 3, lies_cell h.l 4⟩)
    have KRR := Lib.hid (show ∀ W, Below w.heap.size w W → Calls Try.prog 17 #[.agg #[.slice NA n nc, .slice FA m fc], .agg #[.slice MA n2 mc, .slice GA m2 gc], .slice LA k lc] W fun e W' => (∃ v, e = .returned (.tuple #[v, .int .i64 E]) ∧ MatV E m2 (matchL ns fs ms gs ls).1 v W') ∧ Below W.heap.size W W' from fun W h => by
      have := KR.out W h S1.out.1 S1.out.2.1 S1.out.2.2
      unfold RmE at this
      rw [ME2.out, ← EE.out] at this
      exact this.mono fun e W' ⟨⟨v, h1, h2, h3⟩, h4⟩ => ⟨⟨v, h1, h3, h2⟩, h4⟩)
    clear KR
    have Q7 := SR _ SW7.out
    go_upto_region 9 with (first
      | (refine wpList_load_mid rfl 25 _ rfl gS 0 rfl [.slice A1 n c1, .slice A2 m c2] _ Q7.out.1 Try.underlying25 rfl (by kernel_rfl) ?_)
      | (refine wpList_load_mid rfl 25 _ rfl gT 0 rfl [.slice D1 n2 e1, .slice D2 m2 e2] _ Q7.out.2 Try.underlying25 rfl (by kernel_rfl) ?_)
      | (go_at_call 13; (with_reducible refine (KMT.out w7 SW7.out).mono ?_); rintro e w8 ⟨⟨v8, rfl, hv⟩, hb⟩; have SW8 := Lib.hid (syW_below SW7.out hb); have MV8 := Lib.hid hv; clear hv hb))
    clear SW7 Q7 KMT
    have Q8 := SR _ SW8.out
    go_upto_region 10 with (first
      | (refine wpList_load_mid rfl 25 _ rfl gS 0 rfl [.slice A1 n c1, .slice A2 m c2] _ Q8.out.1 Try.underlying25 rfl (by kernel_rfl) ?_)
      | (refine wpList_load_mid rfl 25 _ rfl gT 0 rfl [.slice D1 n2 e1, .slice D2 m2 e2] _ Q8.out.2 Try.underlying25 rfl (by kernel_rfl) ?_)
      | (go_at_call 14; (with_reducible refine (KFS.out w8 SW8.out).mono ?_); rintro e w9 ⟨⟨vf, rfl, hv⟩, hb⟩; have SW9 := Lib.hid (syW_below SW8.out hb); have MV9 := Lib.hid (matV_below MV8.out hb); have BF9 := Lib.hid hb; have FV9 := Lib.hid hv; clear hv hb))
    clear Q8 KFS MV8
    have Q9 := SR _ SW9.out
    have P9 := Lib.hid (pair_range SW9.out.l)
    go_upto_region 11 with (first
      | (refine wpList_load_mid rfl 25 _ rfl gS 0 rfl [.slice A1 n c1, .slice A2 m c2] _ Q9.out.1 Try.underlying25 rfl (by kernel_rfl) ?_)
      | (refine wpList_load_mid rfl 25 _ rfl w.heap.size 0 rfl [.slice NA n nc, .slice FA m fc] _ P9.out.1 Try.underlying25 rfl (by kernel_rfl) ?_)
      | (go_at_call 15; (with_reducible refine (KS1.out w9 SW9.out).mono ?_); rintro e wa ⟨rfl, hb⟩; have SWa := Lib.hid (syW_below SW9.out hb); have MVa := Lib.hid (matV_below MV9.out hb); have BFa := Lib.hid (BF9.out.trans (hb.mono BF9.out.size)); have FBa := Lib.hid hb; obtain ⟨za0, za1, za2, za3, _⟩ := (CT _ SWa.out).out; clear hb)
      | (go_at_call 15; (with_reducible refine (KS2.out wa SWa.out.b SWa.out.t).mono ?_); rintro e wb ⟨rfl, hb⟩; have SWb := Lib.hid (syW_below SWa.out hb); have MVb := Lib.hid (matV_below MVa.out hb); have BFb := Lib.hid (BFa.out.trans (hb.mono BFa.out.size)); have FBb := Lib.hid (FBa.out.trans (hb.mono FBa.out.size)); obtain ⟨_, _, _, _, yb⟩ := (CT _ SWb.out).out; clear hb za0 za1 za2 za3)
      | (go_at_call 16; (with_reducible refine (KS3.out wb SWb.out).mono ?_); rintro e wc ⟨rfl, mq, hwc⟩; have hb : Below wb.heap.size wb wc := (by rw [hwc]; exact below_drewN (Below.refl _ _) _); have SWc := Lib.hid (syW_below SWb.out hb); have MVc := Lib.hid (matV_below MVb.out hb); have BFc := Lib.hid (BFb.out.trans (hb.mono BFb.out.size)); have FBc := Lib.hid (FBb.out.trans (hb.mono FBb.out.size)); clear hb hwc))
    clear SW9 MV9 BF9 SWa MVa BFa FBa SWb MVb BFb FBb yb Q9 P9 KS1 KS3
    have Pc := Lib.hid (pair_range SWc.out.l)
    obtain ⟨_, _, _, _, yc⟩ := (CT _ SWc.out).out
    go_upto_region 12 with (first
      | (refine wpList_load_mid rfl 25 _ rfl w.heap.size 0 rfl [.slice NA n nc, .slice FA m fc] _ Pc.out.1 Try.underlying25 rfl (by kernel_rfl) ?_)
      | (refine wpList_load_mid rfl 25 _ rfl w.heap.size 2 rfl [.slice MA n2 mc, .slice GA m2 gc] _ Pc.out.2.1 Try.underlying25 rfl (by kernel_rfl) ?_)
      | (go_at_call 17; (with_reducible refine (KRR.out wc SWc.out.b).mono ?_); rintro e wd ⟨⟨v13, rfl, hv⟩, hb⟩; have SWd := Lib.hid (syW_below SWc.out hb); have MVd := Lib.hid (matV_below MVc.out hb); have BFd := Lib.hid (BFc.out.trans (hb.mono BFc.out.size)); have FBd := Lib.hid (FBc.out.trans (hb.mono FBc.out.size)); have RVd := Lib.hid hv; clear hv hb))
    clear SWc MVc BFc FBc Pc yc KRR
    have ee : (E != E) = false := by simp
    have SMS := Lib.hid (sames_v MLL.out (by have := S1.out.2.1.2.1; have := ME2.out; omega) MVd.out RVd.out)
    go_upto_region 14 with (first
      | (go_at_call 18; (with_reducible refine (num_any _ _).mono ?_); rintro e wx ⟨rfl, rfl⟩)
      | (go_at_call 19; (with_reducible refine SMS.out.mono ?_); rintro e we ⟨rfl, hb⟩; have SWe := Lib.hid (syW_below SWd.out hb); have BFe := Lib.hid (BFd.out.trans (hb.mono BFd.out.size)); have FBe := Lib.hid (FBd.out.trans (hb.mono FBd.out.size)); clear hb))
    clear SWd MVd BFd FBd RVd SMS ee
    have Pe := Lib.hid (pair_range SWe.out.l)
    obtain ⟨q1, hq1⟩ : ∃ q1, q1 = checkE ns fs := ⟨_, rfl⟩
    obtain ⟨q2, hq2⟩ : ∃ q2, q2 = checkE ms gs := ⟨_, rfl⟩
    have PQ := Lib.hid (show P = if q1 = 0 then q2 else q1 by rw [PE.out, hq1, hq2]; rfl)
    rw [← hq1] at KC1
    rw [← hq2] at KC2
    clear hq1 hq2
    go_upto_region 15 with (first
      | (refine wpList_load_mid rfl 25 _ rfl w.heap.size 0 rfl [.slice NA n nc, .slice FA m fc] _ Pe.out.1 Try.underlying25 rfl (by kernel_rfl) ?_)
      | (go_at_call 20; (with_reducible refine (KC1.out we SWe.out.b S1.out.1).mono ?_); rintro e wf ⟨rfl, hb⟩; have SWf := Lib.hid (syW_below SWe.out hb); have BFf := Lib.hid (BFe.out.trans (hb.mono BFe.out.size)); have FBf := Lib.hid (FBe.out.trans (hb.mono FBe.out.size)); clear hb))
    clear SWe BFe FBe Pe KC1
    by_cases hz : q1 ≠ 0
    · obtain rfl : P = q1 := by rw [PQ.out, if_neg hz]
      have vn := FV9.out.1 hz
      subst vn
      have g1 : (P != 0) = true := by simpa using hz
      have g2 : (P == 0) = false := by simpa using hz
      have g3 : (P == P) = true := by simp
      clear hz FV9
      go_wp2_with (go_at_call 18; (with_reducible refine (num_any _ _).mono ?_); rintro e wx ⟨rfl, rfl⟩)
      go_ret
      exact ⟨rfl, SWf.out.b⟩
    obtain rfl : q1 = 0 := Decidable.not_not.1 hz
    obtain rfl : P = q2 := by rw [PQ.out, if_pos rfl]
    clear hz PQ
    have Pf := Lib.hid (pair_range SWf.out.l)
    go_upto_region 16 with (fail)
    go_upto_region 17 with (first
      | (refine wpList_load_mid rfl 25 _ rfl w.heap.size 2 rfl [.slice MA n2 mc, .slice GA m2 gc] _ Pf.out.2.1 Try.underlying25 rfl (by kernel_rfl) ?_)
      | (go_at_call 20; (with_reducible refine (KC2.out wf SWf.out.b S1.out.2.1).mono ?_); rintro e wg ⟨rfl, hb⟩; have SWg := Lib.hid (syW_below SWf.out hb); have BFg := Lib.hid (BFf.out.trans (hb.mono BFf.out.size)); have FBg := Lib.hid (FBf.out.trans (hb.mono FBf.out.size)); clear hb))
    clear SWf BFf FBf Pf KC2
    by_cases hz : P ≠ 0
    · have vn := FV9.out.1 hz
      subst vn
      have g1 : (P != 0) = true := by simpa using hz
      have g2 : (P == 0) = false := by simpa using hz
      have g3 : (P == P) = true := by simp
      clear hz FV9
      go_wp2_with (go_at_call 18; (with_reducible refine (num_any _ _).mono ?_); rintro e wx ⟨rfl, rfl⟩)
      go_ret
      exact ⟨rfl, SWg.out.b⟩
    obtain rfl : P = 0 := Decidable.not_not.1 hz
    obtain ⟨D, hD⟩ := FV9.out.2 rfl
    clear hz FV9
    obtain ⟨Af, Cf, hvf⟩ := own_slice hD.1
    subst hvf
    have FR9 := Lib.hid hD
    clear hD
    have Pg := Lib.hid (pair_range SWg.out.l)
    obtain ⟨fr, hfr⟩ : ∃ fr, fr = freshL fs gs := ⟨_, rfl⟩
    have FRR := Lib.hid (show frR (fs.map Fl.data) (gs.map Fl.data) m2 = fr from (FRE.out S1.out.1 S1.out.2.1).symm.trans hfr.symm)
    rw [← hfr] at FR9
    rw [← hfr]
    have FRg := Lib.hid (frRow_kept FR9.out (below_grownQ FBg.out) (fun r e => by cases e))
    have KF2 := Lib.hid (show Calls Try.prog 21 #[.agg #[.slice NA n nc, .slice FA m fc], .agg #[.slice MA n2 mc, .slice GA m2 gc]] wg fun e w' => (∃ A C D, e = .returned (.slice A fr.length C) ∧ RfRow w' wg.heap.size (.slice A fr.length C) fr D) ∧ Below wg.heap.size wg w' from by
      have := KFR.out wg SWg.out.b S1.out.1 S1.out.2.1
      rw [FRR.out] at this
      exact this)
    obtain ⟨F, hF⟩ : ∃ F, F = fr.length := ⟨_, rfl⟩
    rw [← hF] at FRg KF2
    rw [← hF]
    have FL := Lib.hid hF
    have FB8 := Lib.hid (show F ≤ 300 by
      have h1 : fr.length ≤ m2 := by rw [← FRR.out]; exact frR_len _ _ _
      have := S1.out.2.1.2.1
      have := ME2.out
      omega)
    have FDL := Lib.hid (show ∀ x ∈ fr, x.length ≤ 40000 from fun x hx => by
      rw [← FRR.out] at hx
      have := frR_mem _ _ m2 (by rw [List.length_map, ME2.out]; exact Nat.le_refl _) x hx
      obtain ⟨y, hy, rfl⟩ := List.mem_map.1 this
      exact S1.out.2.1.2.2.2 y hy)
    clear hfr hF FR9 KFR FRE FRR FBg
    go_upto_region 19 with (fail)
    go_upto_region 20 with (first
      | (refine wpList_load_mid rfl 25 _ rfl w.heap.size 0 rfl [.slice NA n nc, .slice FA m fc] _ Pg.out.1 Try.underlying25 rfl (by kernel_rfl) ?_)
      | (refine wpList_load_mid rfl 25 _ rfl w.heap.size 2 rfl [.slice MA n2 mc, .slice GA m2 gc] _ Pg.out.2.1 Try.underlying25 rfl (by kernel_rfl) ?_)
      | (go_at_call 21; (with_reducible refine KF2.out.mono ?_); rintro e wh ⟨⟨Ar, Cr, E2, rfl, hr⟩, hb⟩; have SP0 := Lib.hid (show SpI w8 w8.heap.size (.slice Af F Cf) F D E2 fr (.slice Ar F Cr) wg.heap.size 0 wh from ⟨BFg.out.trans (hb.mono BFg.out.size), (frRow_kept FRg.out (below_grownQ hb) (fun r e => by cases e)).1 |> (fun h => by rw [← FL.out] at h; exact h), fun k hk _ => (frRow_kept FRg.out (below_grownQ hb) (fun r e => by cases e)).2.1 k hk, hr⟩); clear hb hr))
    clear KF2 Pg SWg BFg
    have ff : ((F : Int) != (F : Int)) = false := by simp
    go_wp2_with (go_at_call 18; (with_reducible refine (num_any _ _).mono ?_); rintro e wx ⟨rfl, rfl⟩)
    go_loopw [17] (fun v17 wr => ∃ i : Nat, i ≤ F ∧ v17 = .int .i64 (i : Int) ∧ SpI w8 w8.heap.size (.slice Af F Cf) F D E2 fr (.slice Ar F Cr) wg.heap.size i wr) (fun v17 _ => F - (intOf v17).toNat)
    case atStart => exact ⟨0, Nat.zero_le _, rfl, SP0.out⟩
    case round =>
      obtain ⟨i, hi, rfl, hS⟩ := hrel
      have HS := Lib.hid hS
      clear hS SP0 ff
      have fB := FB8.out
      by_cases hlt : i < F
      · have li : (i : Int) < (F : Int) := by omega
        have lf : i < fr.length := by have := FL.out; omega
        obtain ⟨gf, hgf⟩ := own_at HS.out.sp (by omega)
        subst hgf
        have hrf := HS.out.rf.1
        rw [← FL.out] at hrf
        obtain ⟨gr, hgr⟩ := own_at hrf (by omega)
        subst hgr
        have hO := HS.out.own i lf (Nat.le_refl _)
        obtain ⟨g, C, eD, hg8, hz⟩ := byz_of hO
        obtain ⟨A', C', eD', hbA⟩ := bytO_at hO
        rw [eD] at eD'
        injection eD' with q1 q2 q3
        subst q1 q3
        obtain ⟨DB, db, eE, hbB⟩ := own_bytes (HS.out.rf.2 i lf)
        have ED := Lib.hid eD
        have G9 := Lib.hid (show g < wg.heap.size from by
          obtain ⟨g', C2, p, cs, e, _, hc, _⟩ := FRg.out.2.1 i lf
          rw [eD] at e
          injection e with e
          injection e with e
          injection e with e
          subst e
          exact (Array.getElem?_eq_some_iff.1 hc).1)
        have NEQ := Lib.hid (show ∀ k, i + 1 ≤ k → k < F → (D k).ownBlock ≠ some g from fun k h1 h2 e => by
          refine FRg.out.2.2 i k (by omega) (by have := FL.out; omega) ?_
          rw [eD, e]
          rfl)
        have c1 : wr.cell? ⟨gf, i, none⟩ = some (.slice (some ⟨g, 0, none⟩) fr[i].length C) := by
          rw [HS.out.sp.cellAt i (by omega), lcells_at _ _ _ hlt, eD]
        have c2 : wr.cell? ⟨gr, i, none⟩ = some (.slice DB fr[i].length db) := by
          rw [hrf.cellAt i (by omega), lcells_at _ _ _ hlt, eE]
        have cv1 := fun q => run_text47 (some ⟨g, 0, none⟩) fr[i] C (wr.drewN q) (bytesAt_below hbA (below_drewN (Below.refl _ _) q))
        have cv2 := fun q => run_text47 DB fr[i] db (wr.drewN q) (bytesAt_below hbB (below_drewN (Below.refl _ _) q))
        have G8 := Lib.hid hg8
        have HZ := Lib.hid hz
        clear hO hbA hbB hz hg8 hrf eD eE q2
        obtain ⟨d, hd⟩ : ∃ d, d = fr[i] := ⟨_, rfl⟩
        rw [← hd] at c1 c2 cv1 cv2 HZ ED
        have se : other d d = false := by unfold other; simp
        have DLB : d.length ≤ 40000 := FDL.out d (hd ▸ List.getElem_mem lf)
        clear hd
        obtain ⟨dl, hdl⟩ : ∃ dl, dl = d.length := ⟨_, rfl⟩
        rw [← hdl] at c1 c2 cv1 cv2 HZ ED DLB
        clear hdl
        go_upto_region 25 with (fail)
        go_quiet (fail)
        have HS1 := Lib.hid (spI_next (spI_drew HS.out nq))
        have HZ1 := Lib.hid (byz_same (W' := wr.drewN nq) HZ.out rfl)
        clear HS HZ c1 c2 cv1 cv2 se
        generalize wr.drewN nq = W2 at *
        go_wp2
        go_loopw [18] (fun v18 wr => ∃ j : Nat, j ≤ dl ∧ v18 = .int .i64 (j : Int) ∧ SpI w8 w8.heap.size (.slice (some ⟨gf, 0, none⟩) F Cf) F D E2 fr (.slice (some ⟨gr, 0, none⟩) F Cr) wg.heap.size (i + 1) wr ∧ ByZ wr g dl) (fun v18 _ => dl - (intOf v18).toNat)
        case atStart => exact ⟨0, Nat.zero_le _, rfl, HS1.out, HZ1.out⟩
        case round =>
          obtain ⟨j, hj, rfl, hS, hz⟩ := hrel
          have HS := Lib.hid hS
          have HZ := Lib.hid hz
          clear hS hz HS1 HZ1
          have c1 : wr.cell? ⟨gf, i, none⟩ = some (.slice (some ⟨g, 0, none⟩) dl C) := by
            rw [HS.out.sp.cellAt i (by omega), lcells_at _ _ _ hlt, ED.out]
          by_cases hjl : j < dl
          · have lj : (j : Int) < (dl : Int) := by omega
            obtain ⟨y, b0, z0⟩ := byz_cell HZ.out hjl
            have HS2 := Lib.hid (spI_set (spI_drew1 HS.out) (byz_same (W' := wr.drew) HZ.out rfl) G8.out G9.out FL.out NEQ.out j (y ^^^ 255))
            have HZ2 := Lib.hid (byz_set (byz_same (W' := wr.drew) HZ.out rfl) j (y ^^^ 255))
            have c1 : wr.drew.cell? ⟨gf, i, none⟩ = some (.slice (some ⟨g, 0, none⟩) dl C) := c1
            have b0 : wr.drew.cell? ⟨g, j, none⟩ = some (yB y) := b0
            have z0 : wr.drew.frozen? ⟨g, j, none⟩ = false := z0
            go_upto_region 30 with (fail)
            go_still_tail 13, (by kernel_rfl)
            change wpList _ _ _ _ _ wr.drew
            generalize wr.drew = wd at *
            go_wp2_with (rw [store_yB]; go_simp)
            go_roundw
            case rel => exact ⟨j + 1, by omega, by go_num, HS2.out, HZ2.out⟩
            case measure => first | (simp [intOf]; done) | (simp [intOf]; omega)
          · obtain rfl : j = dl := by omega
            have lj : ¬ (j : Int) < (j : Int) := by omega
            go_wp2
            go_roundw
            case rel => exact ⟨i + 1, by omega, by go_num, HS.out⟩
            case measure => first | (simp [intOf]; done) | (simp [intOf]; omega)
      · obtain rfl : i = F := by omega
        have li : ¬ (i : Int) < (i : Int) := by omega
        have SWz := Lib.hid (syW_below SW8.out HS.out.b)
        have Qz := SR _ SWz.out
        have Pz := Lib.hid (pair_range SWz.out.l)
        go_upto_region 31 with (fail)
        go_wp2_with (first
          | (refine wpList_load_mid rfl 25 _ rfl gT 0 rfl [.slice D1 n2 e1, .slice D2 m2 e2] _ Qz.out.2 Try.underlying25 rfl (by kernel_rfl) ?_)
          | (refine wpList_load_mid rfl 25 _ rfl w.heap.size 2 rfl [.slice MA n2 mc, .slice GA m2 gc] _ Pz.out.2.1 Try.underlying25 rfl (by kernel_rfl) ?_)
          | (go_at_call 15; (with_reducible refine (KS2.out wr SWz.out.b SWz.out.t).mono ?_); rintro e wz ⟨rfl, hb⟩; have BZ := Lib.hid (SWz.out.b.trans (hb.mono SWz.out.b.size)); clear hb))
        go_ret
        exact ⟨rfl, BZ.out⟩
end Go.Proofs.Ytiglakhfkgeefaa
