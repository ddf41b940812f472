/-
What is proved here: the document's own disk with the memory that is its own: each of its calls, by a contract.
-/
import Derived.Test.YtibidljblkfciaaRkf
set_option linter.unusedSimpArgs false
namespace Go.Proofs.Ytibidljblkfciaa
open Go.Word Go.RowKit

theorem now_agree {K : Nat} : ∀ (ws : List (Nat × Bytes)) {F F' : Bytes} (_ : ∀ j, j < K → F j = F' j), ∀ j, j < K → now F ws j = now F' ws j
  | [], _, _, h => h
  | x :: r, F, F', h => now_agree r (F := put F (512 * x.1) x.2) (F' := put F' (512 * x.1) x.2) (fun j hj => by unfold put; rw [h j hj])
theorem keptW_agree (kp : Nat → Bool) {K : Nat} : ∀ (ws : List (Nat × Bytes)) (i : Nat) {F F' : Bytes} (_ : ∀ j, j < K → F j = F' j), ∀ j, j < K → keptW kp i ws F j = keptW kp i ws F' j
  | [], _, _, _, h => h
  | x :: r, i, F, F', h => fun j hj => by
    unfold keptW
    exact keptW_agree kp r (i + 1) (fun j hj => by cases kp i with | true => simp only [if_true]; unfold put; rw [h j hj] | false => exact h j hj) j hj
/-- the document's own Disk in block r: F is fast, ws is held back; its memory is fp -/
def RD (w : World) (r n : Nat) (F : Bytes) (ws : List (Nat × Bytes)) (on : Bool) (lf : Int) (fp : Nat → Prop) : Prop :=
  (∃ (F2 : Bytes) (FB C0 : Nat) (rv : Value), (∀ j, j < 512 * n → F2 j = F j) ∧ Rdk w r FB C0 rv n F2 ws on lf ∧ fp r ∧ fp FB ∧ ∀ k, rv.ownBlock = some k → fp k) ∧ ∀ i, fp i → i < w.heap.size
section
variable {w w' : World} {r n : Nat} {F : Bytes} {ws : List (Nat × Bytes)} {on : Bool} {lf : Int} {fp fq : Nat → Prop}
theorem keeps_mono {fp fq : Nat → Prop} {w w' : World} (h : Keeps fq w w') (hs : ∀ i, fq i → fp i) : Keeps fp w w' := ⟨h.os, h.tape, h.output, h.size, fun i hi hn => h.block i hi (fun hq => hn (hs i hq))⟩
theorem rd_frame (h : RD w r n F ws on lf fp) (hk : Keeps fq w w') (ha : Apart fp fq) : RD w' r n F ws on lf fp := by
  obtain ⟨⟨F2, FB, C0, rv, hF, hd, f1, f2, f3⟩, hlt⟩ := h
  have hb : ∀ i, fp i → w'.heap[i]? = w.heap[i]? := fun i hi => hk.block i (hlt i hi) (fun hq => ha i hi hq)
  refine ⟨⟨F2, FB, C0, rv, hF, { self := (hb r f1).trans hd.self, fast := (hb FB f2).trans hd.fast, held := ⟨hd.held.1, ?_⟩, most := hd.most, ats := hd.ats, apart := hd.apart }, f1, f2, f3⟩, fun i hi => Nat.lt_of_lt_of_le (hlt i hi) hk.size⟩
  rcases hd.held.2 with h0 | ⟨gg, cap, cur, e, h1, h2, h3⟩
  · exact .inl h0
  · exact .inr ⟨gg, cap, cur, e, h1, (hb gg (f3 gg (by rw [e]; rfl))).trans h2, h3⟩
theorem rd_below (h : RD w r n F ws on lf fp) (hb : Below w.heap.size w w') : RD w' r n F ws on lf fp := rd_frame (fq := fun _ => False) h (keeps_below hb) (fun _ _ h => h)
theorem rd_all (h : RD w r n F ws on lf fp) : ∀ i, fp i → i < w.heap.size := h.2
theorem rd_new (z : Int) (n : Nat) (hz : z = n) (w : World) (h1 : 1 ≤ n) (h2 : n ≤ 4096) :
    Calls Try.prog 31 #[.int .i64 z] w fun e w' => ∃ r fp, e = .returned (.tuple #[.pointer (some ⟨r, 0, none⟩), .int .i64 0]) ∧ RD w' r n (fun _ => 0) [] true (-1) fp ∧ (∀ i, fp i → w.heap.size ≤ i) ∧ Below w.heap.size w w' :=
  (rnew_any z n hz w h1 h2).mono fun e w' ⟨r, FB, he, hB, hr, hd, hb⟩ => by
    refine ⟨r, fun i => i = r ∨ i = FB, he, ⟨⟨_, FB, n, _, fun _ _ => rfl, hd, .inl rfl, .inr rfl, fun k hk => by simp [Value.ownBlock] at hk⟩, ?_⟩, ?_, hb⟩
    · rintro i (rfl | rfl)
      · exact lies_lt hd.self
      · exact lies_lt hd.fast
    · rintro i (rfl | rfl) <;> omega
theorem rd_read (z : Int) (b : Nat) (hz : z = b) (w : World) (hb : b < n) (hN : ws.length ≤ 70000) (h : RD w r n F ws true lf fp) :
    Calls Try.prog 34 #[.pointer (some ⟨r, 0, none⟩), .int .i64 z] w fun e w' => e = .returned (.tuple #[.agg (yRow (fun j => now F ws (512 * b + j)) 512), .int .i64 0]) ∧ Below w.heap.size w w' := by
  subst hz
  obtain ⟨⟨F2, FB, C0, rv, hF, hd, _⟩, _⟩ := h
  have e : yRow (fun j => now F2 ws (512 * b + j)) 512 = yRow (fun j => now F ws (512 * b + j)) 512 := row_congr (fun j hj => now_agree ws hF _ (by omega))
  rw [← e]
  exact rread_any b w hb hN hd
theorem rd_write (z : Int) (b : Nat) (hz : z = b) (rb c : Nat) (q : Bytes) (w : World) (hb : b < n) (hN : ws.length < 65536) (h1 : -1 ≤ lf) (h2 : lf ≤ 9223372036854775807) (h0 : lf ≠ 0) (hq : Src8 w ⟨rb, 0, none⟩ q 512) (hrb : rb < w.heap.size) (h : RD w r n F ws true lf fp) :
    Calls Try.prog 35 #[.pointer (some ⟨r, 0, none⟩), .int .i64 z, .slice (some ⟨rb, 0, none⟩) 512 c] w fun e w' => e = .returned (.int .i64 0) ∧ (∃ fp', Sub w fp fp' ∧ RD w' r n F (ws ++ [(b, q)]) (stepOn true lf) (stepLf lf) fp') ∧ Keeps fp w w' := by
  subst hz
  obtain ⟨⟨F2, FB, C0, rv, hF, hd, f1, f2, f3⟩, hlt⟩ := h
  refine (rwrite_any b rb c q w hb hN h1 h2 h0 hq hrb hd).mono fun e w' ⟨he, ⟨rv', hd', ho⟩, hk⟩ => ⟨he, ⟨fun i => fp i ∨ (w.heap.size ≤ i ∧ i < w'.heap.size), fun i hi => hi.imp id (fun h => h.1), ⟨F2, FB, C0, rv', hF, hd', .inl f1, .inl f2, fun k hk2 => ?_⟩, ?_⟩, keeps_mono hk ?_⟩
  · rcases ho with ho | ⟨k', ho, hle⟩
    · exact .inl (f3 k (by rw [← ho]; exact hk2))
    · obtain rfl : k' = k := by rw [ho] at hk2; injection hk2
      exact .inr ⟨hle, (World.ownsRow.lt hd'.held k' hk2).2⟩
  · rintro i (hi | hi)
    · exact Nat.lt_of_lt_of_le (hlt i hi) hk.size
    · exact hi.2
  · rintro i (rfl | hi)
    · exact f1
    · exact f3 i hi
theorem rd_flush (w : World) (hN : ws.length ≤ 70000) (h1 : -1 ≤ lf) (h2 : lf ≤ 9223372036854775807) (h0 : lf ≠ 0) (h : RD w r n F ws true lf fp) :
    Calls Try.prog 36 #[.pointer (some ⟨r, 0, none⟩)] w fun e w' => e = .returned (.int .i64 0) ∧ RD w' r n (now F ws) [] (stepOn true lf) (stepLf lf) fp ∧ Keeps fp w w' := by
  obtain ⟨⟨F2, FB, C0, rv, hF, hd, f1, f2, f3⟩, hlt⟩ := h
  refine (rflush_any w hN h1 h2 h0 hd).mono fun e w' ⟨he, hd', hk⟩ => ⟨he, ⟨⟨_, FB, C0, _, now_agree ws hF, hd', f1, f2, fun k hk2 => by simp [Value.ownBlock] at hk2⟩, fun i hi => Nat.lt_of_lt_of_le (hlt i hi) hk.size⟩, keeps_mono hk ?_⟩
  rintro i (rfl | rfl)
  · exact f1
  · exact f2
theorem rd_crash (w : World) (hN : ws.length ≤ 70000) (KA : Option Addr) (kl kc : Nat) (ks : Nat → Int) (hkm : kl ≤ 9223372036854775807) (hks : ∀ i, i < kl → ∃ b o, KA = some ⟨b, o, none⟩ ∧ b < w.heap.size ∧ ¬ fp b ∧ w.cell? ⟨b, o + i, none⟩ = some (.int .i64 (ks i))) (h : RD w r n F ws on lf fp) :
    Calls Try.prog 38 #[.pointer (some ⟨r, 0, none⟩), .slice KA kl kc] w fun e w' => e = .returned (.tuple #[]) ∧ RD w' r n (keptW (keeps kl ks) 0 ws F) [] true (-1) fp ∧ Keeps fp w w' := by
  obtain ⟨⟨F2, FB, C0, rv, hF, hd, f1, f2, f3⟩, hlt⟩ := h
  refine (rcrash_any w hN KA kl kc ks hkm (fun i hi => by
    obtain ⟨b, o, e, hb, hf, hc⟩ := hks i hi
    exact ⟨b, o, e, hb, fun e2 => hf (by rw [e2]; exact f2), hc⟩) hd).mono fun e w' ⟨he, hd', hk⟩ => ⟨he, ⟨⟨_, FB, C0, _, keptW_agree _ ws 0 hF, hd', f1, f2, fun k hk2 => by simp [Value.ownBlock] at hk2⟩, fun i hi => Nat.lt_of_lt_of_le (hlt i hi) hk.size⟩, keeps_mono hk ?_⟩
  rintro i (rfl | rfl)
  · exact f1
  · exact f2
set_option maxRecDepth 100000 in
/-- what a look at it finds -/
theorem rd_cells (h : RD w r n F ws on lf fp) : ∃ (FB C0 : Nat) (A : Option Addr) (C : Nat), w.cell? ⟨r, 0, none⟩ = some (.slice (some ⟨FB, 0, none⟩) n C0) ∧ w.cell? ⟨r, 1, none⟩ = some (.slice A ws.length C) ∧ w.cell? ⟨r, 2, none⟩ = some (.int .i64 lf) ∧ w.cell? ⟨r, 3, none⟩ = some (.bool (!on)) ∧
    ∀ i (hi : i < ws.length), ∃ hb, A = some ⟨hb, 0, none⟩ ∧ w.cell? ⟨hb, i * 513, none⟩ = some (.int .i64 (ws[i].1 : Int)) := by
  obtain ⟨⟨F2, FB, C0, rv, hF, hd, _⟩, _⟩ := h
  obtain ⟨A, C, rfl, hA⟩ := rdk_form hd
  refine ⟨FB, C0, A, C, lies_cell hd.self 0, lies_cell hd.self 1, lies_cell hd.self 2, lies_cell hd.self 3, fun i hi => ?_⟩
  obtain ⟨hb, rfl⟩ := hA (by omega)
  refine ⟨hb, rfl, ?_⟩
  have := World.ownsRow.cellAt hd.held (i * 513 + 0) (by omega)
  rw [wflat_at ws i 0 hi (by omega)] at this
  exact this
end
end Go.Proofs.Ytibidljblkfciaa
