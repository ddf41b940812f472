/-
What is proved here: several texts in one (Cn1, Num): each says what it is about.
-/
import Derived.Test.YtjagddhkoacipaaMa9
import Derived.Test.YtjagddhkoacipaaMa8
import Derived.Test.YtjagddhkoacipaaMa4
/-
What is proved here: what putting a tree's nodes in order and its files in the order of their names comes to; a loose tree comes to itself, however its files were numbered and its nodes turned round.
-/
set_option linter.unusedSimpArgs false
namespace Go.Tre
open Go.Pth Go.Op
/-- has a node the number of one of m files -/
def hasF (m : Nat) (x : Nd) : Bool := decide (0 ≤ x.file ∧ x.file < m)
/-- the files' numbers in the order in which they are named: one node more -/
def ordT (m : Nat) (o : List Int) (x : Nd) : List Int := if hasF m x = true ∧ x.file ∉ o then o ++ [x.file] else o
def ordF (m : Nat) (ns : List Nd) : List Int := ns.foldl (ordT m) []
def numT (m : Nat) (o : List Int) (x : Nd) : Nd := if hasF m x = true then ⟨x.path, (o.idxOf x.file : Nat), x.mode⟩ else x
def setA (m : Nat) : List Int → List Nd → List Nd
  | _, [] => []
  | o, x :: r => numT m (ordT m o x) x :: setA m (ordT m o x) r
def setN (m : Nat) (ns : List Nd) : List Nd := setA m [] ns
def setF (ns : List Nd) (fs : List Fl) : List Fl := (ordF fs.length ns).map fun f => fs.getD f.toNat ⟨0, []⟩
theorem setA_len (m : Nat) : ∀ (ns : List Nd) (o : List Int), (setA m o ns).length = ns.length
  | [], _ => rfl
  | x :: r, o => by simp [setA, setA_len m r]
theorem setA_snoc (m : Nat) (x : Nd) : ∀ (ns : List Nd) (o : List Int), setA m o (ns ++ [x]) = setA m o ns ++ [numT m (ordT m (ns.foldl (ordT m) o) x) x]
  | [], _ => rfl
  | y :: r, o => by simp [setA, setA_snoc m x r]
theorem ordF_snoc (m : Nat) (ns : List Nd) (x : Nd) : ordF m (ns ++ [x]) = ordT m (ordF m ns) x := by simp [ordF]
theorem setN_snoc (m : Nat) (ns : List Nd) (x : Nd) : setN m (ns ++ [x]) = setN m ns ++ [numT m (ordF m (ns ++ [x])) x] := by
  rw [ordF_snoc]
  exact setA_snoc m x ns []
theorem ordT_fits {m : Nat} {o : List Int} {x : Nd} (ho : ∀ f ∈ o, 0 ≤ f ∧ f < m) (hn : o.Nodup) : (∀ f ∈ ordT m o x, 0 ≤ f ∧ f < m) ∧ (ordT m o x).Nodup := by
  unfold ordT
  split
  · rename_i h
    have h1 := of_decide_eq_true h.1
    refine ⟨fun f hf => ?_, ?_⟩
    · rcases List.mem_append.1 hf with hf | hf
      · exact ho f hf
      · rw [List.mem_singleton.1 hf]; exact h1
    · rw [List.nodup_append]
      refine ⟨hn, by simp, fun a ha b hb e => ?_⟩
      rw [List.mem_singleton.1 hb] at e
      exact h.2 (e ▸ ha)
  · exact ⟨ho, hn⟩
theorem ordF_fits (m : Nat) : ∀ (ns : List Nd) (o : List Int), (∀ f ∈ o, 0 ≤ f ∧ f < m) → o.Nodup → (∀ f ∈ ns.foldl (ordT m) o, 0 ≤ f ∧ f < m) ∧ (ns.foldl (ordT m) o).Nodup
  | [], _, h1, h2 => ⟨h1, h2⟩
  | x :: r, o, h1, h2 => ordF_fits m r (ordT m o x) (ordT_fits h1 h2).1 (ordT_fits h1 h2).2
theorem ordF_in (m : Nat) (ns : List Nd) : ∀ f ∈ ordF m ns, 0 ≤ f ∧ f < m := (ordF_fits m ns [] (by simp) (by simp)).1
theorem ordF_nodup (m : Nat) (ns : List Nd) : (ordF m ns).Nodup := (ordF_fits m ns [] (by simp) (by simp)).2
theorem nodup_le : ∀ (m : Nat) (o : List Int), (∀ f ∈ o, 0 ≤ f ∧ f < (m : Int)) → o.Nodup → o.length ≤ m
  | 0, o, h, _ => by
    cases o with
    | nil => simp
    | cons f r => have := h f (by simp); omega
  | m + 1, o, h, hn => by
    have h1 := nodup_le m (o.filter fun f => decide (f ≠ (m : Int))) (fun f hf => by
      obtain ⟨a, b⟩ := List.mem_filter.1 hf
      have := h f a
      have b := of_decide_eq_true b
      omega) (hn.filter _)
    have h2 : o.length ≤ (o.filter fun f => decide (f ≠ (m : Int))).length + 1 := by
      clear h h1
      induction o with
      | nil => simp
      | cons f r ih =>
        by_cases hf : f = (m : Int)
        · have hr : r.filter (fun f => decide (f ≠ (m : Int))) = r := List.filter_eq_self.2 (fun g hg => decide_eq_true (fun e => by
            have := (List.nodup_cons.1 hn).1
            rw [hf, ← e] at this
            exact this hg))
          rw [List.filter_cons_of_neg (by simp [hf]), hr]
          simp
        · rw [List.filter_cons_of_pos (by simp [hf])]
          have := ih (List.nodup_cons.1 hn).2
          simp only [List.length_cons]
          omega
    omega
theorem ordF_len (m : Nat) (ns : List Nd) : (ordF m ns).length ≤ m := nodup_le m _ (ordF_in m ns) (ordF_nodup m ns)

/-- a node whose file has another number -/
def renT (σ : Int → Int) (x : Nd) : Nd := if x.file = -1 then x else ⟨x.path, σ x.file, x.mode⟩
theorem map_nodup {σ : Int → Int} {k : Nat} (h : ∀ a b : Int, 0 ≤ a → a < k → 0 ≤ b → b < k → σ a = σ b → a = b) : ((List.range k).map fun i : Nat => σ i).Nodup := by
  refine List.pairwise_map.2 (List.Pairwise.imp_of_mem (fun {a b} ha hb hab e => hab ?_) List.nodup_range)
  have := h a b (by omega) (by simpa using ha) (by omega) (by simpa using hb) e
  omega
theorem idx_map {σ : Int → Int} {k : Nat} (h : ∀ a b : Int, 0 ≤ a → a < k → 0 ≤ b → b < k → σ a = σ b → a = b) (f : Nat) (hf : f < k) : (((List.range k).map fun i : Nat => σ i)).idxOf (σ f) = f := by
  have h1 := (map_nodup h).idxOf_getElem f (by simpa using hf)
  simpa using h1
section
variable {σ : Int → Int} {M : Nat}
theorem settle_walk : ∀ (r : List Nd) (D : Bt → Bool) (l : Bt) (k K : Nat), walkT D l (k : Int) r = some (K : Int) → (∀ a : Int, 0 ≤ a → a < K → 0 ≤ σ a ∧ σ a < M) → (∀ a b : Int, 0 ≤ a → a < K → 0 ≤ b → b < K → σ a = σ b → a = b) →
    (r.map (renT σ)).foldl (ordT M) ((List.range k).map fun i : Nat => σ i) = (List.range K).map (fun i : Nat => σ i) ∧ setA M ((List.range k).map fun i : Nat => σ i) (r.map (renT σ)) = r
  | [], _, _, k, K, h, _, _ => by
    have e : (k : Int) = K := by simpa [walkT] using h
    have e : k = K := by omega
    subst e
    exact ⟨rfl, rfl⟩
  | x :: r, D, l, k, K, h, hb, hi => by
    unfold walkT at h
    split at h
    · cases h
    · rename_i D' l' k1 e
      have hk : k1 ≤ (K : Int) := (walk_file r D' l' k1 K h).1
      rcases (nodeT_cases e).2 with ⟨f1, _, f3⟩ | ⟨f1, f2, f3, _, f5⟩
      · subst f3
        have e1 : renT σ x = x := by rw [renT, if_pos f1]
        have e2 : hasF M x = false := decide_eq_false (by omega)
        have e3 : ordT M ((List.range k).map fun i : Nat => σ i) x = (List.range k).map fun i : Nat => σ i := by rw [ordT, if_neg (by simp [e2])]
        have ih := settle_walk r D' l' k K h hb hi
        simp only [List.map_cons, List.foldl_cons, setA, e1, e3]
        refine ⟨ih.1, ?_⟩
        rw [ih.2, numT, if_neg (by simp [e2])]
      · obtain ⟨f, hf⟩ : ∃ f : Nat, x.file = f := ⟨x.file.toNat, by omega⟩
        have fk : f < K := by omega
        have e1 : renT σ x = ⟨x.path, σ f, x.mode⟩ := by rw [renT, if_neg f1, hf]
        have sb := hb f (by omega) (by omega)
        have e2 : hasF M ⟨x.path, σ f, x.mode⟩ = true := decide_eq_true sb
        have inj : ∀ q, q ≤ K → ∀ a b : Int, 0 ≤ a → a < q → 0 ≤ b → b < q → σ a = σ b → a = b := fun q hq a b h1 h2 h3 h4 => hi a b h1 (by omega) h3 (by omega)
        by_cases hfk : f = k
        · subst hfk
          have hk1 : k1 = ((f + 1 : Nat) : Int) := by omega
          subst hk1
          have e3 : ordT M ((List.range f).map fun i : Nat => σ i) ⟨x.path, σ f, x.mode⟩ = (List.range (f + 1)).map fun i : Nat => σ i := by
            have hm : σ f ∉ (List.range f).map fun i : Nat => σ i := fun hm => by
              obtain ⟨q, hq, hqe⟩ := List.mem_map.1 hm
              have hq : q < f := by simpa using hq
              have := hi q f (by omega) (by omega) (by omega) (by omega) hqe
              omega
            rw [ordT, if_pos ⟨e2, hm⟩, List.range_succ, List.map_append]
            rfl
          have ih := settle_walk r D' l' (f + 1) K h hb hi
          simp only [List.map_cons, List.foldl_cons, setA, e1, e3]
          refine ⟨ih.1, ?_⟩
          rw [ih.2, numT, if_pos e2, idx_map (inj _ (by omega)) f (by omega), ← hf]
        · have hk1 : k1 = (k : Int) := by omega
          subst hk1
          have e3 : ordT M ((List.range k).map fun i : Nat => σ i) ⟨x.path, σ f, x.mode⟩ = (List.range k).map fun i : Nat => σ i := by
            rw [ordT, if_neg (fun hc => hc.2 (List.mem_map.2 ⟨f, by simp; omega, rfl⟩))]
          have ih := settle_walk r D' l' k K h hb hi
          simp only [List.map_cons, List.foldl_cons, setA, e1, e3]
          refine ⟨ih.1, ?_⟩
          rw [ih.2, numT, if_pos e2, idx_map (inj _ (by omega)) f (by omega), ← hf]
end
/-- two lists of the same nodes, one strictly in order, one in order: they are one -/
theorem perm_uniq : ∀ (l m : List Nd), l.Perm m → l.Pairwise (fun x y => bytesLess x.path y.path = true) → m.Pairwise (fun x y => bytesLess y.path x.path = false) → l = m
  | [], m, h, _, _ => (List.nil_perm.1 h).symm
  | a :: l, m, h, hl, hm => by
    cases m with
    | nil => exact absurd h.symm (by simp)
    | cons b m =>
      by_cases e : a = b
      · subst e
        rw [perm_uniq l m (List.perm_cons a |>.1 h) (List.pairwise_cons.1 hl).2 (List.pairwise_cons.1 hm).2]
      · exfalso
        have ha : a ∈ m := by
          have := h.subset (List.mem_cons_self (a := a) (l := l))
          rcases List.mem_cons.1 this with h1 | h1
          · exact absurd h1 e
          · exact h1
        have hb : b ∈ l := by
          have := h.symm.subset (List.mem_cons_self (a := b) (l := m))
          rcases List.mem_cons.1 this with h1 | h1
          · exact absurd h1.symm e
          · exact h1
        have h1 := (List.pairwise_cons.1 hl).1 b hb
        have h2 := (List.pairwise_cons.1 hm).1 a ha
        rw [h1] at h2
        cases h2
end Go.Tre
namespace Go.Tre
open Go.Pth Go.Op
/-- nodes put in order one by one -/
def insN (x : Nd) : List Nd → List Nd
  | [] => [x]
  | y :: r => if bytesLess y.path x.path = true then y :: insN x r else x :: y :: r
def sortI (ns : List Nd) : List Nd := ns.foldl (fun u n => insN n u) []
def InOrder (ms : List Nd) : Prop := ms.Pairwise (fun x y => bytesLess y.path x.path = false)
theorem ins_perm (x : Nd) : ∀ u : List Nd, (insN x u).Perm (x :: u)
  | [] => List.Perm.refl _
  | y :: r => by
    unfold insN
    split
    · exact ((ins_perm x r).cons y).trans (List.Perm.swap x y r)
    · exact List.Perm.refl _
theorem le_trans_bl {a b c : Bt} (h1 : bytesLess b a = false) (h2 : bytesLess c b = false) : bytesLess c a = false := by
  cases h : bytesLess c a with
  | false => rfl
  | true =>
    rcases bl_total b a with h3 | h3 | h3
    · rw [h3] at h1; cases h1
    · rw [h3, h] at h2; cases h2
    · rw [bl_trans _ _ _ h h3] at h2; cases h2
theorem ins_order (x : Nd) : ∀ u : List Nd, InOrder u → InOrder (insN x u)
  | [], _ => by unfold insN InOrder; simp
  | y :: r, h => by
    obtain ⟨h1, h2⟩ := List.pairwise_cons.1 h
    unfold insN
    split
    · rename_i hy
      refine List.pairwise_cons.2 ⟨fun z hz => ?_, ins_order x r h2⟩
      rcases List.mem_cons.1 ((ins_perm x r).subset hz) with rfl | hz
      · cases h3 : bytesLess z.path y.path with
        | false => rfl
        | true => have := bl_trans _ _ _ h3 hy; rw [bl_irrefl] at this; cases this
      · exact h1 z hz
    · rename_i hy
      have hy : bytesLess y.path x.path = false := by cases h3 : bytesLess y.path x.path with | false => rfl | true => exact absurd h3 hy
      refine List.pairwise_cons.2 ⟨fun z hz => ?_, h⟩
      rcases List.mem_cons.1 hz with rfl | hz
      · exact hy
      · exact le_trans_bl hy (h1 z hz)
theorem sort_fold : ∀ (ns u : List Nd), InOrder u → InOrder (ns.foldl (fun u n => insN n u) u) ∧ (ns.foldl (fun u n => insN n u) u).Perm (u ++ ns)
  | [], u, h => ⟨h, by simp⟩
  | x :: r, u, h => by
    obtain ⟨h1, h2⟩ := sort_fold r (insN x u) (ins_order x u h)
    refine ⟨h1, h2.trans ?_⟩
    exact ((ins_perm x u).append_right r).trans (List.perm_middle.symm)
theorem sortI_order (ns : List Nd) : InOrder (sortI ns) := (sort_fold ns [] (by unfold InOrder; simp)).1
theorem sortI_perm (ns : List Nd) : (sortI ns).Perm ns := by simpa [sortI] using (sort_fold ns [] (by unfold InOrder; simp)).2
theorem setA_path (m : Nat) : ∀ (ns : List Nd) (o : List Int), (setA m o ns).map (·.path) = ns.map (·.path)
  | [], _ => rfl
  | x :: r, o => by
    simp only [setA, List.map_cons, setA_path m r]
    congr 1
    unfold numT
    split <;> rfl
theorem setA_get (m : Nat) (ns : List Nd) (o : List Int) (i : Nat) (h : i < ns.length) : ((setA m o ns)[i]'(by rw [setA_len]; exact h)).path = ns[i].path := by
  have h1 : ((setA m o ns).map (·.path))[i]? = (ns.map (·.path))[i]? := by rw [setA_path]
  rw [List.getElem?_map, List.getElem?_map, List.getElem?_eq_getElem h, List.getElem?_eq_getElem (by rw [setA_len]; exact h)] at h1
  simpa using h1
theorem setF_len (ns : List Nd) (fs : List Fl) : (setF ns fs).length ≤ fs.length := by
  unfold setF
  rw [List.length_map]
  exact ordF_len _ _
theorem setF_mem (ns : List Nd) (fs : List Fl) : ∀ x ∈ setF ns fs, x ∈ fs := fun x hx => by
  obtain ⟨f, hf, rfl⟩ := List.mem_map.1 hx
  have hb := ordF_in _ _ f hf
  have : f.toNat < fs.length := by omega
  rw [List.getD_eq_getElem?_getD, List.getElem?_eq_getElem this]
  exact List.getElem_mem _
theorem set_small {n : Nat} {fs : List Fl} (ms : List Nd) (hl : ms.length = n) (h : tooB n fs = false) : tooB (setN fs.length ms).length (setF ms fs) = false := by
  unfold tooB anyGreat at h ⊢
  simp only [Bool.or_eq_false_iff, decide_eq_false_iff_not, List.any_eq_false, decide_eq_true_eq] at h ⊢
  obtain ⟨h1, h2, h3⟩ := h
  have := setF_len ms fs
  refine ⟨by unfold setN; rw [setA_len]; omega, by omega, fun x hx => h3 x (setF_mem ms fs x hx)⟩
theorem loose_or {n : Nat} {fs : List Fl} (ms : List Nd) (hl : ms.length = n) (h : tooB n fs = false) : looseE (setN fs.length ms) (setF ms fs) = 0 ∨ looseE (setN fs.length ms) (setF ms fs) = 30 := by
  unfold looseE
  rw [set_small ms hl h]
  simp only [Bool.false_eq_true, if_false]
  split
  · exact .inl rfl
  · exact .inr rfl
theorem set_strict {ms : List Nd} {fs : List Fl} (h : looseE (setN fs.length ms) (setF ms fs) = 0) : ms.Pairwise (fun x y => bytesLess x.path y.path = true) := by
  refine List.pairwise_iff_getElem.2 (fun i j hi hj hij => ?_)
  have h1 := loose_lt h i j hij (by unfold setN; rw [setA_len]; exact hj)
  unfold setN at h1
  rw [setA_get _ _ _ i hi, setA_get _ _ _ j hj] at h1
  exact h1
/-- what Canon answers -/
def canonN (ns : List Nd) (fs : List Fl) : List Nd := setN fs.length (sortI ns)
def canonF (ns : List Nd) (fs : List Fl) : List Fl := setF (sortI ns) fs
def canonE (ns : List Nd) (fs : List Fl) : Int := if tooB ns.length fs = true then 31 else looseE (canonN ns fs) (canonF ns fs)
theorem canon_code {ns ms : List Nd} {fs : List Fl} (hp : ms.Perm ns) (ho : InOrder ms) (ht : tooB ns.length fs = false) :
    looseE (setN fs.length ms) (setF ms fs) = canonE ns fs ∧ (canonE ns fs = 0 → setN fs.length ms = canonN ns fs ∧ setF ms fs = canonF ns fs) := by
  have e : canonE ns fs = looseE (canonN ns fs) (canonF ns fs) := by unfold canonE; rw [if_neg (by simp [ht])]
  rw [e]
  by_cases h : looseE (setN fs.length ms) (setF ms fs) = 0
  · have e2 : ms = sortI ns := perm_uniq ms (sortI ns) (hp.trans (sortI_perm ns).symm) (set_strict h) (sortI_order ns)
    subst e2
    exact ⟨rfl, fun _ => ⟨rfl, rfl⟩⟩
  · by_cases h2 : looseE (canonN ns fs) (canonF ns fs) = 0
    · have e2 : sortI ns = ms := perm_uniq (sortI ns) ms ((sortI_perm ns).trans hp.symm) (set_strict h2) ho
      subst e2
      exact ⟨rfl, fun _ => ⟨rfl, rfl⟩⟩
    · refine ⟨?_, fun h3 => absurd h3 h2⟩
      rcases loose_or ms hp.length_eq ht with h3 | h3
      · exact absurd h3 h
      · rcases loose_or (sortI ns) (sortI_perm ns).length_eq ht with h4 | h4
        · exact absurd h4 h2
        · rw [h3]; exact h4.symm
/-- a loose tree, its files numbered otherwise, its nodes in any order: it comes to itself -/
theorem canon_ren {ns us : List Nd} {fs gs : List Fl} {σ : Int → Int} (h : looseE ns fs = 0) (hp : us.Perm (ns.map (renT σ))) (hb : ∀ a : Int, 0 ≤ a → a < fs.length → 0 ≤ σ a ∧ σ a < gs.length) (hi : ∀ a b : Int, 0 ≤ a → a < fs.length → 0 ≤ b → b < fs.length → σ a = σ b → a = b)
    (hg : ∀ i : Nat, (hi : i < fs.length) → gs.getD (σ i).toNat ⟨0, []⟩ = fs[i]) : canonN us gs = ns ∧ canonF us gs = fs := by
  have hw := settle_walk (M := gs.length) ns root [] 0 fs.length (loose_walk h) hb hi
  have hpath : ∀ x : Nd, (renT σ x).path = x.path := fun x => by unfold renT; split <;> rfl
  have hs : (ns.map (renT σ)).Pairwise (fun x y => bytesLess x.path y.path = true) := by
    refine List.pairwise_iff_getElem.2 (fun i j hi hj hij => ?_)
    rw [List.getElem_map, List.getElem_map, hpath, hpath]
    exact loose_lt h i j hij (by simpa using hj)
  have e : ns.map (renT σ) = sortI us := perm_uniq _ _ (hp.symm.trans (sortI_perm us).symm) hs (sortI_order us)
  unfold canonN canonF setF setN ordF
  rw [← e]
  refine ⟨hw.2, ?_⟩
  have h1 := hw.1
  simp only [List.range_zero, List.map_nil] at h1
  rw [h1, List.map_map]
  apply List.ext_getElem
  · simp
  · intro i h2 h3
    simp only [List.getElem_map, List.getElem_range, Function.comp]
    exact hg i h3
end Go.Tre
namespace Go.Tre
open Go.Pth Go.Op
theorem setA_mem (m : Nat) (x : Nd) (hx : hasF m x = false) : ∀ (ns : List Nd) (o : List Int), x ∈ ns → x ∈ setA m o ns
  | y :: r, o, h => by
    unfold setA
    rcases List.mem_cons.1 h with rfl | h
    · refine List.mem_cons.2 (.inl ?_)
      rw [numT, if_neg (by simp [hx])]
    · exact List.mem_cons.2 (.inr (setA_mem m x hx r _ h))
/-- a node of a file that there is not -/
theorem canon_out {us : List Nd} {gs : List Fl} (x : Nd) (hx : x ∈ us) (h : gs.length ≤ x.file) : canonE us gs ≠ 0 := by
  unfold canonE
  split
  · decide
  · intro h0
    have hf : hasF gs.length x = false := decide_eq_false (by omega)
    have h1 : x ∈ canonN us gs := setA_mem _ x hf _ _ ((sortI_perm us).symm.subset hx)
    have h2 : (canonF us gs).length ≤ gs.length := setF_len _ _
    rcases loose_files h0 x h1 with h3 | h3
    · omega
    · omega
theorem canon_30 {us : List Nd} {gs : List Fl} (h : canonE us gs ≠ 0) (ht : tooB us.length gs = false) : canonE us gs = 30 := by
  have h1 := (canon_code (List.Perm.refl _ |>.trans (sortI_perm us)) (sortI_order us) ht).1
  rcases loose_or (sortI us) (sortI_perm us).length_eq ht with h2 | h2
  · rw [h2] at h1; exact absurd h1.symm h
  · rw [← h1]; exact h2
/-- files behind a loose tree's own: they go -/
theorem canon_more {ns : List Nd} {fs : List Fl} (es : List Fl) (h : looseE ns fs = 0) : canonN ns (fs ++ es) = ns ∧ canonF ns (fs ++ es) = fs := by
  refine canon_ren (σ := id) h ?_ (fun a h1 h2 => ⟨h1, by simp; omega⟩) (fun a b _ _ _ _ e => e) (fun i hi => ?_)
  · have e : ns.map (renT id) = ns := by
      rw [List.map_congr_left (g := id) (fun x _ => by unfold renT; split <;> rfl)]
      simp
    rw [e]
  · simp [List.getD_eq_getElem?_getD, List.getElem?_append_left hi, List.getElem?_eq_getElem hi]
theorem canon_more_code {ns : List Nd} {fs : List Fl} (es : List Fl) (h : looseE ns fs = 0) (ht : tooB ns.length (fs ++ es) = false) : canonE ns (fs ++ es) = 0 := by
  unfold canonE
  rw [if_neg (by simp [ht]), (canon_more es h).1, (canon_more es h).2, h]
/-- a list turned round -/
def turned (l : List Nd) (r : Nat) : List Nd := (List.range l.length).map fun i => l.getD ((i + r) % l.length) ⟨[], 0, 0⟩
theorem turned_eq (l : List Nd) (r : Nat) (hr : 0 < l.length) : turned l r = l.drop (r % l.length) ++ l.take (r % l.length) := by
  have hk : r % l.length < l.length := Nat.mod_lt _ hr
  unfold turned
  generalize hke : r % l.length = k at *
  apply List.ext_getElem
  · simp; omega
  · intro i h1 h2
    have hi : i < l.length := by simpa using h1
    simp only [List.getElem_map, List.getElem_range]
    rw [Nat.add_mod, hke, Nat.mod_eq_of_lt hi, List.getD_eq_getElem?_getD]
    by_cases h3 : i < l.length - k
    · rw [Nat.mod_eq_of_lt (by omega), List.getElem_append_left (by simp; omega), List.getElem?_eq_getElem (by omega), Option.getD_some, List.getElem_drop]
      congr 1; omega
    · have e : (i + k) % l.length = i + k - l.length := by rw [Nat.mod_eq_sub_mod (by omega), Nat.mod_eq_of_lt (by omega)]
      rw [e, List.getElem_append_right (by simp; omega), List.getElem?_eq_getElem (by omega), Option.getD_some, List.getElem_take]
      congr 1; simp; omega
theorem turned_perm (l : List Nd) (r : Nat) : (turned l r).Perm l := by
  by_cases hr : 0 < l.length
  · rw [turned_eq l r hr]
    exact List.perm_append_comm.trans (by rw [List.take_append_drop])
  · have e : l = [] := List.length_eq_zero_iff.1 (by omega)
    subst e
    exact List.Perm.refl _
def backN (m : Nat) (f : Int) : Int := m - 1 - f
/-- a loose tree whose nodes are turned round, and whose files are numbered the other way -/
theorem canon_back {ns : List Nd} {fs : List Fl} (r : Nat) (h : looseE ns fs = 0) : canonN (turned (ns.map (renT (backN fs.length))) r) fs.reverse = ns ∧ canonF (turned (ns.map (renT (backN fs.length))) r) fs.reverse = fs := by
  refine canon_ren h (turned_perm _ _) (fun a h1 h2 => by unfold backN; simp; omega) (fun a b _ _ _ _ e => by unfold backN at e; omega) (fun i hi => ?_)
  have e : (backN fs.length (i : Int)).toNat = fs.length - 1 - i := by unfold backN; omega
  rw [e, List.getD_eq_getElem?_getD, List.getElem?_eq_getElem (by simp; omega), Option.getD_some, List.getElem_reverse]
  congr 1
  omega
theorem canon_back_code {ns : List Nd} {fs : List Fl} (r : Nat) (h : looseE ns fs = 0) (ht : tooB ns.length fs = false) : canonE (turned (ns.map (renT (backN fs.length))) r) fs.reverse = 0 := by
  have e : tooB (turned (ns.map (renT (backN fs.length))) r).length fs.reverse = false := by
    rw [← ht]
    unfold tooB anyGreat turned
    simp
  unfold canonE
  rw [if_neg (by simp [e]), (canon_back r h).1, (canon_back r h).2, h]
end Go.Tre

/-
What is proved here: a map that holds for each of some numbers its place in their order, by its operations.
-/
set_option linter.unusedSimpArgs false
namespace Go.Proofs.Ytjagddhkoacipaa
open Go.Pth Go.Tre Go.RowKit Go.Word

theorem keyed3 : Maps.Keyed Try.prog 3 := Maps.int_keyed Try.underlying3
def NumAt (w : World) (b n : Nat) (o : List Int) : Prop := ∃ D : DataW Unit, w.ownsMap Try.prog 3 (plainElem Try.prog 3) b n D ∧ ∀ f : Int, Maps.has D (.int .i64 f) = decide (f ∈ o) ∧ (f ∈ o → D.atKey (.int .i64 f) (.lit (.int .i64 0)) = .lit (.int .i64 (o.idxOf f : Nat)))
theorem int_key (f : Int) : WideAt.IsKeyLit (.int .i64 f) := by simp [WideAt.IsKeyLit]
theorem wf_int {z : Int} (h1 : -9223372036854775808 ≤ z) (h2 : z ≤ 9223372036854775807) : (Lit.int .i64 z).wf = true := by
  have e1 : IntKind.i64.min = -9223372036854775808 := by decide
  have e2 : IntKind.i64.max = 9223372036854775807 := by decide
  simp only [Lit.wf, Bool.and_eq_true, decide_eq_true_eq, e1, e2]
  exact ⟨h1, h2⟩
section
variable {w w' : World} {b n : Nat} {o : List Int}
theorem num_made (w : World) : NumAt (w.alloc (.map #[] 0)) w.heap.size 0 [] := ⟨.map [], World.ownsMap_made _ _ _ _, fun f => ⟨by simp; rfl, fun h => by simp at h⟩⟩
theorem num_same (h : NumAt w b n o) (hb : w'.heap[b]? = w.heap[b]?) : NumAt w' b n o := by
  obtain ⟨D, ⟨es, clock, h1, h2⟩, h3⟩ := h
  exact ⟨D, ⟨es, clock, hb.trans h1, h2⟩, h3⟩
theorem num_lt (h : NumAt w b n o) : b < w.heap.size := by
  obtain ⟨D, h1, _⟩ := h
  exact h1.lt
theorem num_map (h : NumAt w b n o) : ∃ q : Obj, w.heap[b]? = some q ∧ q.isWalk = true := by
  obtain ⟨D, ⟨es, clock, h1, _⟩, _⟩ := h
  exact ⟨_, h1, rfl⟩
set_option maxRecDepth 100000 in
theorem num_look (h : NumAt w b n o) (f : Int) (hf : (Lit.int .i64 f).wf = true) : ∃ c : Int, (Instr.lookup 96 (.map (some b)) (.int .i64 f) true).run Try.prog w = .ok (.tuple #[.int .i64 c, .bool (decide (f ∈ o))]) w ∧ (f ∈ o → c = (o.idxOf f : Nat)) := by
  obtain ⟨D, h1, h2⟩ := h
  obtain ⟨v, ps, hr, hv⟩ := h1.look_ok keyed3 Try.underlying96 (Try.zeroValue3 w) (plainElem_int Try.underlying3 (by decide)) (Maps.keyOf_int_mk Try.underlying3 hf)
  obtain ⟨c, rfl, hc, hwc⟩ := plainElem_int_inv Try.underlying3 hv
  simp only [Prod.mk.injEq] at hc
  refine ⟨c, by rw [hr, (h2 f).1], fun hm => ?_⟩
  have := hc.1.symm.trans ((h2 f).2 hm)
  simp only [DataW.lit.injEq, Lit.int.injEq, true_and] at this
  exact this
theorem num_put (h : NumAt w b n o) (f : Int) (hf : (Lit.int .i64 f).wf = true) (hn : n ≤ 100000) (hl : o.length ≤ 100000) (hno : f ∉ o) : ∃ w', (Instr.mapUpdate 96 (.map (some b)) (.int .i64 f) (.int .i64 (o.length : Nat))).run Try.prog w = .ok () w' ∧ NumAt w' b (n + 1) (o ++ [f]) ∧ w.grownBy w' (some b) := by
  obtain ⟨D, h1, h2⟩ := h
  obtain ⟨w', hr, h3, h4⟩ := h1.update keyed3 Try.underlying96 (by unfold maxLen; omega) (Maps.keyOf_int_mk Try.underlying3 hf) (plainElem_int Try.underlying3 (wf_int (z := (o.length : Nat)) (by omega) (by omega)))
  refine ⟨w', hr, ⟨_, h3, fun x => ?_⟩, h4⟩
  by_cases e : x = f
  · subst e
    rw [Maps.has_put_same h1.isMap (int_key x), Maps.atKey_put_same h1.isMap (int_key x)]
    refine ⟨by simp, fun _ => ?_⟩
    rw [List.idxOf_append, if_neg hno]
    simp
  · have hne : (Lit.int .i64 x) ≠ (Lit.int .i64 f) := by simpa using e
    rw [Maps.has_put_other hne, Maps.atKey_put_other hne, (h2 x).1]
    refine ⟨by simp [e], fun hm => ?_⟩
    have hm' : x ∈ o := by
      rcases List.mem_append.1 hm with h | h
      · exact h
      · exact absurd (List.mem_singleton.1 h) e
    rw [List.idxOf_append, if_pos hm']
    exact (h2 x).2 hm'
end
end Go.Proofs.Ytjagddhkoacipaa
