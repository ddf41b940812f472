/-
What is proved here: the disk by what it holds fast and what it holds back, with the memory that is its own: each of its calls, by a contract.
-/
import Derived.Test.YtibidljblkfciaaTwi
import Derived.Test.YtibidljblkfciaaOne
set_option linter.unusedSimpArgs false
namespace Go.Proofs.Ytibidljblkfciaa
open Go.Word Go.RowKit

abbrev Bytes := Nat → BitVec 8
/-- what is fast, with writes made -/
def now (F : Bytes) (ws : List (Nat × Bytes)) : Bytes := ws.foldl (fun f x => put f (512 * x.1) x.2) F
/-- what is fast, with those writes made that are kept -/
def keptW (kp : Nat → Bool) : Nat → List (Nat × Bytes) → Bytes → Bytes
  | _, [], f => f
  | i, x :: r, f => keptW kp (i + 1) r (if kp i then put f (512 * x.1) x.2 else f)
def Ent.pair (e : Ent) : Nat × Bytes := (e.at_, e.da)
theorem kept_pair (kp : Nat → Bool) : ∀ (hs : List Ent) (i : Nat) (f : Bytes), kept kp i hs f = keptW kp i (hs.map Ent.pair) f
  | [], _, _ => rfl
  | _ :: r, i, _ => kept_pair kp r (i + 1) _
theorem was_now {F f : Bytes} {hs : List Ent} (h : Was F hs f) : f = now F (hs.map Ent.pair) := by
  induction h with
  | nil => rfl
  | @snoc hs f e a q _ h1 h2 h3 ih =>
    unfold now at ih ⊢
    rw [List.map_append, List.foldl_append, ← ih]
    simp [Ent.pair, h1, h2]
theorem was_snoc {F f : Bytes} {hs : List Ent} {e : Ent} (h : Was F (hs ++ [e]) f) : ∃ f0, Was F hs f0 ∧ e.dc = (fun j => f0 (512 * e.at_ + j)) ∧ f = put f0 (512 * e.at_) e.da := by
  generalize hl : hs ++ [e] = l at h
  cases h with
  | nil => exact absurd hl (by simp)
  | @snoc hs' f' e' a q h0 h1 h2 h3 =>
    obtain ⟨rfl, he⟩ := List.append_inj' hl rfl
    injection he with he
    subst he
    subst h1 h2
    exact ⟨f', h0, h3, rfl⟩
theorem was_like_n {F : Bytes} : ∀ (n : Nat) (hs es : List Ent) (f : Bytes), hs.length = n → Was F hs f → es.length = hs.length → (∀ (i : Nat) (h : i < es.length) (h' : i < hs.length), (es[i]).like hs[i]) → Was F es f ∧ es.map Ent.pair = hs.map Ent.pair := by
  intro n
  induction n with
  | zero =>
    intro hs es f hn h hl _
    obtain rfl := List.length_eq_zero_iff.1 hn
    obtain rfl := List.length_eq_zero_iff.1 hl
    exact ⟨h, rfl⟩
  | succ n ih =>
    intro hs es f hn h hl hk
    rcases List.eq_nil_or_concat hs with rfl | ⟨r, e, rfl⟩
    · cases hn
    rcases List.eq_nil_or_concat es with rfl | ⟨r', e', rfl⟩
    · simp at hl
    simp only [List.concat_eq_append] at hn hl hk h ⊢
    have hl' : r'.length = r.length := by simpa using hl
    obtain ⟨f0, h0, h1, h2⟩ := was_snoc h
    obtain ⟨w1, w2⟩ := ih r r' f0 (by simpa using hn) h0 hl' (fun i hi hi' => by
      have := hk i (by simp; omega) (by simp; omega)
      rw [List.getElem_append_left hi, List.getElem_append_left hi'] at this
      exact this)
    have hle := hk r'.length (by simp) (by simp; omega)
    rw [List.getElem_append_right (by omega), List.getElem_append_right (by omega)] at hle
    simp only [Nat.sub_self, hl', List.getElem_cons_zero] at hle
    obtain ⟨k1, k2, k3⟩ := hle
    refine ⟨?_, by rw [List.map_append, List.map_append, w2]; simp [Ent.pair, k1, k2]⟩
    rw [h2]
    exact Was.snoc e' e.at_ e.da w1 k1 k2 (by rw [k3, h1])
theorem was_like {F : Bytes} (hs es : List Ent) (f : Bytes) (h : Was F hs f) (hl : es.length = hs.length) (hk : ∀ (i : Nat) (h : i < es.length) (h' : i < hs.length), (es[i]).like hs[i]) : Was F es f ∧ es.map Ent.pair = hs.map Ent.pair := was_like_n _ hs es f rfl h hl hk

/-- all is as it was, but what is fp's -/
structure Keeps (fp : Nat → Prop) (w w' : World) : Prop where
  os : w'.os = w.os
  tape : w'.tape = w.tape
  output : w'.output = w.output
  size : w.heap.size ≤ w'.heap.size
  block : ∀ i, i < w.heap.size → ¬ fp i → w'.heap[i]? = w.heap[i]?
theorem keeps_below {fp : Nat → Prop} {w w' : World} (h : Below w.heap.size w w') : Keeps fp w w' := ⟨h.os, h.tape, h.output, h.size, fun i hi _ => h.block i hi⟩
theorem below_keeps {fp : Nat → Prop} {w w' : World} {m : Nat} (h : Keeps fp w w') (hm : m ≤ w.heap.size) (hf : ∀ i, fp i → m ≤ i) : Below m w w' := ⟨h.os, h.tape, h.output, h.size, fun i hi => h.block i (by omega) (fun hi2 => by have := hf i hi2; omega)⟩
/-- fp' is fp's, and what is new -/
def Sub (w : World) (fp fp' : Nat → Prop) : Prop := ∀ i, fp' i → fp i ∨ w.heap.size ≤ i
theorem sub_refl (w : World) (fp : Nat → Prop) : Sub w fp fp := fun _ h => .inl h
def Apart (fp fq : Nat → Prop) : Prop := ∀ i, fp i → fq i → False

/-- the Disk in block g, of n blocks: F is fast, ws is held back; its memory is fp -/
def DK (w : World) (g n : Nat) (F : Bytes) (ws : List (Nat × Bytes)) (on : Bool) (lf : Int) (fp : Nat → Prop) : Prop :=
  (∃ (B base : Nat) (hv : Value) (hs : List Ent), Dsk w g B base n (512 * n) (now F ws) hv hs on lf ∧ Was F hs (now F ws) ∧ hs.map Ent.pair = ws ∧ fp g ∧ fp B ∧ (∀ k, hv.ownBlock = some k → fp k) ∧ ∀ e ∈ hs, fp e.a ∧ fp e.c) ∧ ∀ i, fp i → i < w.heap.size
section
variable {w w' : World} {g n : Nat} {F : Bytes} {ws : List (Nat × Bytes)} {on : Bool} {lf : Int} {fp fq : Nat → Prop}
theorem dk_frame (h : DK w g n F ws on lf fp) (hk : Keeps fq w w') (ha : Apart fp fq) : DK w' g n F ws on lf fp := by
  obtain ⟨⟨B, base, hv, hs, hd, hw, hp, f1, f2, f3, f4⟩, hlt⟩ := h
  have hb : ∀ i, fp i → w'.heap[i]? = w.heap[i]? := fun i hi => hk.block i (hlt i hi) (fun hq => ha i hi hq)
  refine ⟨⟨B, base, hv, hs, { self := (hb g f1).trans hd.self, bytes := (hb B f2).trans hd.bytes, held := ?_, size := hd.size, most := hd.most, ord := ⟨hd.ord.1, hd.ord.2.1, Nat.le_trans hd.ord.2.2 hk.size⟩, rows := ?_ }, hw, hp, f1, f2, f3, f4⟩, fun i hi => Nat.lt_of_lt_of_le (hlt i hi) hk.size⟩
  · refine ⟨hd.held.1, ?_⟩
    rcases hd.held.2 with h0 | ⟨gg, cap, cur, e, h1, h2, h3⟩
    · exact .inl h0
    · exact .inr ⟨gg, cap, cur, e, h1, (hb gg (f3 gg (by rw [e]; rfl))).trans h2, h3⟩
  · intro e he
    obtain ⟨r1, r2, r3, r4, r5, r6, r7⟩ := hd.rows e he
    exact ⟨r1, r2, r3, (hb e.a (f4 e he).1).trans r4, (hb e.c (f4 e he).2).trans r5, r6, r7⟩
theorem dk_below (h : DK w g n F ws on lf fp) (hb : Below w.heap.size w w') : DK w' g n F ws on lf fp := dk_frame (fq := fun _ => False) h (keeps_below hb) (fun _ _ h => h)
theorem dk_lt (h : DK w g n F ws on lf fp) : g < w.heap.size := by obtain ⟨⟨_, _, _, _, _, _, _, f1, _⟩, hlt⟩ := h; exact hlt g f1
theorem dk_fp (h : DK w g n F ws on lf fp) : fp g := by obtain ⟨⟨_, _, _, _, _, _, _, f1, _⟩, hlt⟩ := h; exact f1
theorem dk_most (h : DK w g n F ws on lf fp) : 1 ≤ n ∧ n ≤ 4096 := by obtain ⟨⟨_, _, _, _, hd, _⟩, _⟩ := h; exact hd.most
theorem apart_sub {fp' : Nat → Prop} (h : Apart fp fq) (hs : Sub w fp fp') (hlt : ∀ i, fq i → i < w.heap.size) : Apart fp' fq := fun i h1 h2 => by
  rcases hs i h1 with h3 | h3
  · exact h i h3 h2
  · have := hlt i h2; omega
theorem apart_symm (h : Apart fp fq) : Apart fq fp := fun i h1 h2 => h i h2 h1
theorem dk_all (h : DK w g n F ws on lf fp) : ∀ i, fp i → i < w.heap.size := h.2

theorem dk_new (z : Int) (n : Nat) (hz : z = n) (w : World) (h1 : 1 ≤ n) (h2 : n ≤ 4096) :
    Calls Try.prog 18 #[.int .i64 z] w fun e w' => ∃ g fp, e = .returned (.tuple #[.pointer (some ⟨g, 0, none⟩), .int .i64 0]) ∧ DK w' g n (fun _ => 0) [] true (-1) fp ∧ (∀ i, fp i → w.heap.size ≤ i) ∧ Below w.heap.size w w' :=
  (new_z z n hz w h1 h2).mono fun e w' ⟨B, g, he, hB, hd, hb⟩ => by
    refine ⟨g, fun i => i = g ∨ i = B, he, ⟨⟨B, g + 1, .slice none 0 0, [], hd, Was.nil, rfl, .inl rfl, .inr rfl, fun k hk => by simp [Value.ownBlock] at hk, fun e he => by cases he⟩, ?_⟩, ?_, hb⟩
    · rintro i (rfl | rfl)
      · exact lies_lt hd.self
      · exact lies_lt hd.bytes
    · have := hd.ord
      rintro i (rfl | rfl) <;> omega
theorem dk_read (z : Int) (at_ : Nat) (hz : z = at_) (w : World) (ha : at_ < n) (h : DK w g n F ws true lf fp) :
    Calls Try.prog 21 #[.pointer (some ⟨g, 0, none⟩), .int .i64 z] w fun e w' => ∃ r, e = .returned (.tuple #[.slice (some ⟨r, 0, none⟩) 512 512, .int .i64 0]) ∧ w.heap.size = r ∧ Lies w' r 5 (yRow (fun j => now F ws (512 * at_ + j)) 512) ∧ Below w.heap.size w w' := by
  obtain ⟨⟨B, base, hv, hs, hd, _⟩, _⟩ := h
  exact read_z z at_ hz w ha hd
theorem dk_write (z : Int) (at_ : Nat) (hz : z = at_) (ad : Addr) (c : Nat) (q : Bytes) (w : World) (ha : at_ < n) (hN : ws.length < 65536) (h1 : -1 ≤ lf) (h2 : lf ≤ 9223372036854775807)
    (h : DK w g n F ws true lf fp) (hq : Src8 w ad q 512) (hl : ad.block < w.heap.size) (hn : ¬ fp ad.block) :
    Calls Try.prog 22 #[.pointer (some ⟨g, 0, none⟩), .int .i64 z, .slice (some ad) 512 c] w fun e w' => e = .returned (.int .i64 0) ∧ (∃ fp', Sub w fp fp' ∧ DK w' g n F (ws ++ [(at_, q)]) (stepOn true lf) (stepLf lf) fp') ∧ Keeps fp w w' := by
  subst hz
  obtain ⟨⟨B, base, hv, hs, hd, hw, hp, f1, f2, f3, f4⟩, hlt⟩ := h
  refine (write_full_ok g B base n (512 * n) (now F ws) hv hs lf at_ ad c q w ha (by rw [← hp, List.length_map] at hN; exact hN) h1 h2 hd hq hl (fun e => hn (by rw [e]; exact f1)) (fun e => hn (f3 _ e))).mono fun e w' ⟨he, hv', e', a1, a2, a3, hd', hb, hbl, ho, ha', hc'⟩ => ?_
  have en : put (now F ws) (512 * at_) q = now F (ws ++ [(at_, q)]) := by unfold now; rw [List.foldl_append]; rfl
  rw [en] at hd'
  have zs := hb.size
  refine ⟨he, ⟨fun i => fp i ∨ (w.heap.size ≤ i ∧ i < w'.heap.size), fun i hi => hi.imp id (fun h => h.1), ⟨B, base, hv', hs ++ [e'], hd', ?_, ?_, .inl f1, .inl f2, ?_, ?_⟩, ?_⟩, ⟨hb.os, hb.tape, hb.output, hb.size, fun i hi hni => hbl i hi (fun e => hni (by rw [e]; exact f1)) (fun e => hni (by rw [e]; exact f2)) (fun e => hni (f3 i e))⟩⟩
  · rw [← en]; exact Was.snoc e' at_ q hw a1 a2 a3
  · rw [List.map_append, hp]; simp [Ent.pair, a1, a2]
  · intro k hk
    rcases ho with ho | ⟨k', ho, hle⟩
    · exact .inl (f3 k (by rw [← ho]; exact hk))
    · obtain rfl : k' = k := by rw [ho] at hk; injection hk
      exact .inr ⟨hle, (World.ownsRow.lt hd'.held k' hk).2⟩
  · intro x hx
    rcases List.mem_append.1 hx with hx | hx
    · exact ⟨.inl (f4 x hx).1, .inl (f4 x hx).2⟩
    · obtain rfl := List.mem_singleton.1 hx
      obtain ⟨r1, r2, r3, r4, r5, _⟩ := hd'.rows x (by simp)
      exact ⟨.inr ⟨ha', lies_lt r4⟩, .inr ⟨hc', lies_lt r5⟩⟩
  · rintro i (hi | hi)
    · exact Nat.lt_of_lt_of_le (hlt i hi) zs
    · exact hi.2
theorem dk_flush (w : World) (h1 : -1 ≤ lf) (h2 : lf ≤ 9223372036854775807) (h : DK w g n F ws true lf fp) :
    Calls Try.prog 25 #[.pointer (some ⟨g, 0, none⟩)] w fun e w' => e = .returned (.int .i64 0) ∧ DK w' g n (now F ws) [] (stepOn true lf) (stepLf lf) fp ∧ Keeps fp w w' := by
  obtain ⟨⟨B, base, hv, hs, hd, hw, hp, f1, f2, f3, f4⟩, hlt⟩ := h
  refine (flush_any w h1 h2 hd).mono fun e w' ⟨he, hd', hg⟩ => ⟨he, ⟨⟨B, base, _, [], hd', Was.nil, rfl, f1, f2, fun k hk => by simp [Value.ownBlock] at hk, fun e he => by cases he⟩, fun i hi => Nat.lt_of_lt_of_le (hlt i hi) hg.size⟩, ⟨hg.os, hg.tape, hg.output, hg.size, fun i hi hni => hg.block i hi (fun e => hni (by injection e with e; rw [e]; exact f1))⟩⟩
theorem dk_fuse (z : Int) (w : World) (h1 : -1 ≤ z) (h : DK w g n F ws true lf fp) :
    Calls Try.prog 19 #[.pointer (some ⟨g, 0, none⟩), .int .i64 z] w fun e w' => e = .returned (.int .i64 0) ∧ DK w' g n F ws (decide (z ≠ 0)) z fp ∧ Keeps fp w w' := by
  obtain ⟨⟨B, base, hv, hs, hd, hw, hp, f1, f2, f3, f4⟩, hlt⟩ := h
  refine (fuse_any g B base n (512 * n) _ hv hs lf z w h1 hd).mono fun e w' ⟨he, hd', hg⟩ => ⟨he, ⟨⟨B, base, hv, hs, hd', hw, hp, f1, f2, f3, f4⟩, fun i hi => Nat.lt_of_lt_of_le (hlt i hi) hg.size⟩, ⟨hg.os, hg.tape, hg.output, hg.size, fun i hi hni => hg.block i hi (fun e => hni (by injection e with e; rw [e]; exact f1))⟩⟩
theorem dk_crash (w : World) (hN : ws.length ≤ 70000) (KA : Option Addr) (kl kc : Nat) (ks : Nat → Int) (hks : ∀ i, i < kl → ∃ b o, KA = some ⟨b, o, none⟩ ∧ b < w.heap.size ∧ ¬ fp b ∧ w.cell? ⟨b, o + i, none⟩ = some (.int .i64 (ks i)))
    (h : DK w g n F ws on lf fp) :
    Calls Try.prog 26 #[.pointer (some ⟨g, 0, none⟩), .slice KA kl kc] w fun e w' => e = .returned (.tuple #[]) ∧ DK w' g n (keptW (keeps kl ks) 0 ws F) [] true (-1) fp ∧ Keeps fp w w' := by
  obtain ⟨⟨B, base, hv, hs, hd, hw, hp, f1, f2, f3, f4⟩, hlt⟩ := h
  refine (crash_k w (by rw [← hp, List.length_map] at hN; exact hN) KA kl kc ks (fun i hi => by
    obtain ⟨b, o, e, hb, hf, hc⟩ := hks i hi
    exact ⟨b, o, e, hb, fun e2 => hf (by rw [e2]; exact f2), hc⟩) hd).mono fun e w' ⟨he, hd', ht⟩ => ?_
  have ec : crashed kl ks hs (now F ws) = keptW (keeps kl ks) 0 ws F := by
    unfold crashed
    rw [was_undo hw, kept_pair, hp]
  rw [ec] at hd'
  exact ⟨he, ⟨⟨B, base, _, [], hd', Was.nil, rfl, f1, f2, fun k hk => by simp [Value.ownBlock] at hk, fun e he => by cases he⟩, fun i hi => Nat.lt_of_lt_of_le (hlt i hi) ht.size⟩, ⟨ht.os, ht.tape, ht.output, ht.size, fun i hi hni => ht.block i hi (fun e => hni (by rw [e]; exact f1)) (fun e => hni (by rw [e]; exact f2))⟩⟩
theorem dk_twin (w : World) (hN : ws.length ≤ 70000) (h : DK w g n F ws on lf fp) :
    Calls Try.prog 14 #[.pointer (some ⟨g, 0, none⟩)] w fun e w' => ∃ g' fp', e = .returned (.pointer (some ⟨g', 0, none⟩)) ∧ DK w' g' n F ws on lf fp' ∧ (∀ i, fp' i → w.heap.size ≤ i) ∧ Below w.heap.size w w' := by
  obtain ⟨⟨B, base, hv, hs, hd, hw, hp, f1, f2, f3, f4⟩, hlt⟩ := h
  refine (twin_k w (by rw [← hp, List.length_map] at hN; exact hN) hd).mono fun e w' ⟨he, ⟨es, hl, hk, hd'⟩, hb⟩ => ?_
  obtain ⟨hw', hp'⟩ := was_like hs es _ hw hl hk
  refine ⟨w.heap.size, fun i => w.heap.size ≤ i ∧ i < w'.heap.size, he, ⟨⟨_, _, _, es, hd', hw', hp'.trans hp, ⟨Nat.le_refl _, lies_lt hd'.self⟩, ⟨by omega, lies_lt hd'.bytes⟩, ?_, ?_⟩, fun i hi => hi.2⟩, fun i hi => hi.1, hb⟩
  · intro k hk2
    have := World.ownsRow.lt hd'.held k hk2
    exact ⟨by omega, this.2⟩
  · intro x hx
    obtain ⟨_, r2, r3, r4, r5, _⟩ := hd'.rows x hx
    exact ⟨⟨by omega, lies_lt r4⟩, ⟨by omega, lies_lt r5⟩⟩
theorem dk_on (w : World) (h : DK w g n F ws on lf fp) : Calls Try.prog 20 #[.pointer (some ⟨g, 0, none⟩)] w fun e w' => e = .returned (.bool on) ∧ w = w' := by
  obtain ⟨⟨B, base, hv, hs, hd, _⟩, _⟩ := h
  exact on_any g on w (lies_cell hd.self 2)
theorem dk_blocks (w : World) (h : DK w g n F ws on lf fp) : Calls Try.prog 30 #[.pointer (some ⟨g, 0, none⟩)] w fun e w' => e = .returned (.int .i64 (n : Int)) ∧ w = w' := by
  obtain ⟨⟨B, base, hv, hs, hd, _⟩, _⟩ := h
  exact blocks_any g B n (512 * n) w rfl hd.most.2 (lies_cell hd.self 0)
theorem dk_pend (w : World) (hN : ws.length ≤ 70000) (h : DK w g n F ws on lf fp) :
    Calls Try.prog 27 #[.pointer (some ⟨g, 0, none⟩)] w fun e w' => ∃ A C, e = .returned (.slice A ws.length C) ∧ w'.ownsRow w.heap.size 3 1 (.slice A ws.length C) ws.length (ws.map fun x => .int .i64 (x.1 : Int)) ∧ Below w.heap.size w w' := by
  obtain ⟨⟨B, base, hv, hs, hd, hw, hp, _⟩, _⟩ := h
  have hl : hs.length = ws.length := by rw [← hp, List.length_map]
  have hm : hs.map (fun e => Value.int .i64 (e.at_ : Int)) = ws.map fun x => Value.int .i64 (x.1 : Int) := by rw [← hp, List.map_map]; rfl
  have := pend_any g base hv hs w (by omega) (lies_lt hd.self) (lies_cell hd.self 1) hd.held
  rw [hl, hm] at this
  exact this
end
end Go.Proofs.Ytibidljblkfciaa
