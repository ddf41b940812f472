/-
What is proved here: the laws' helper 'call', for a crash, on the pair of disks.
-/
import Derived.Test.YtibidljblkfciaaClb
set_option linter.unusedSimpArgs false
namespace Go.Proofs.Ytibidljblkfciaa
open Go.Word Go.RowKit

/-- numbers in a slice, outside two sets of blocks -/
def Outs (w : World) (fp fq : Nat → Prop) (KA : Option Addr) (kl : Nat) (ks : Nat → Int) : Prop := ∀ i, i < kl → ∃ b o, KA = some ⟨b, o, none⟩ ∧ b < w.heap.size ∧ ¬ fp b ∧ ¬ fq b ∧ w.cell? ⟨b, o + i, none⟩ = some (.int .i64 (ks i))
theorem outs_keeps {w w' : World} {fp fq fr : Nat → Prop} {KA : Option Addr} {kl : Nat} {ks : Nat → Int} (h : Outs w fp fq KA kl ks) (hk : Keeps fr w w') (hs : ∀ i, fr i → fp i ∨ fq i) : Outs w' fp fq KA kl ks := fun i hi => by
  obtain ⟨b, o, e, hb, h1, h2, hc⟩ := h i hi
  exact ⟨b, o, e, Nat.lt_of_lt_of_le hb hk.size, h1, h2, (World.cell?_of_block (hk.block b hb (fun h => by rcases hs b h with h | h; exact h1 h; exact h2 h))).trans hc⟩
section
variable {w w' : World} {g r n : Nat} {F : Bytes} {ws : List (Nat × Bytes)} {on : Bool} {lf : Int} {fp fq : Nat → Prop}
theorem behind_copy {W W1 : World} {KA : Option Addr} {v' : Value} {kl : Nat} {ks : Nat → Int} (h : Two2 W g r n F ws on lf fp fq) (ho : W1.ownsRow W.heap.size 3 1 v' kl ((List.range kl).map fun i => Value.int .i64 (ks i))) (hb : Below W.heap.size W W1) (hO : Outs W fp fq KA kl ks) :
    ∃ A' C', v' = .slice A' kl C' ∧ Two2 W1 g r n F ws on lf fp fq ∧ Outs W1 fp fq KA kl ks ∧ (∀ i, i < kl → ∃ b o, A' = some ⟨b, o, none⟩ ∧ b < W1.heap.size ∧ ¬ fp b ∧ W1.cell? ⟨b, o + i, none⟩ = some (.int .i64 (ks i))) := by
  rcases ho.2 with ⟨e, e0⟩ | ⟨gg, cap, cur, e, hge, hg, hrest⟩
  · subst e0
    exact ⟨none, 0, e, two_below h hb, fun i hi => by omega, fun i hi => by omega⟩
  · refine ⟨_, _, e, two_below h hb, outs_keeps hO (keeps_below (fp := fun _ => False) hb) (fun _ h => h.elim), fun i hi => ⟨gg, 0, rfl, ?_, fun hf => ?_, ?_⟩⟩
    · rcases Nat.lt_or_ge gg W1.heap.size with h | h
      · exact h
      · rw [Array.getElem?_eq_none h] at hg; cases hg
    · have := dk_all h.d gg hf; omega
    · rw [e] at ho
      rw [Nat.zero_add, World.ownsRow.cellAt ho i (by omega)]
      simp [hi]

set_option maxRecDepth 100000 in
set_option maxHeartbeats 4000000 in
theorem call_crash (a b : Int) (KA : Option Addr) (kl kc : Nat) (ks : Nat → Int) (w : World) (hN : ws.length ≤ 70000) (hkl : kl ≤ 17592186043904) (hO : Outs w fp fq KA kl ks) (hcap : KA = none → kl = 0 ∧ kc = 0) (h : Two2 w g r n F ws on lf fp fq) :
    Calls Try.prog 16 #[.pointer (some ⟨g, 0, none⟩), .pointer (some ⟨r, 0, none⟩), .agg #[.int .i64 4, .int .i64 a, .int .i64 b, .slice KA kl kc]] w fun e w' => e = .returned (.bool true) ∧ Two2 w' g r n (keptW (keeps kl ks) 0 ws F) [] true (-1) fp fq ∧ Keeps (fun i => fp i ∨ fq i) w w' := by
  have bb := (Below.refl w.heap.size w).alloc (Nat.le_refl _) (.cells #[.int .i64 4, .int .i64 a, .int .i64 b, .slice KA kl kc] 33)
  have H0 := Lib.hid h
  have H1 := Lib.hid (two_below h bb)
  have BB := Lib.hid bb
  have HO := Lib.hid (outs_keeps hO (keeps_below (fp := fun _ => False) bb) (fun _ h => h.elim))
  have cK : (w.alloc (.cells #[.int .i64 4, .int .i64 a, .int .i64 b, .slice KA kl kc] 33)).cell? ⟨w.heap.size, 3, none⟩ = some (.slice KA kl kc) := lies_cell (lies_new w 33 _) 3
  have LB := Lib.hid (lies_new w 33 #[.int .i64 4, .int .i64 a, .int .i64 b, .slice KA kl kc])
  obtain ⟨i0, hi, hz0, hz1, hz2⟩ := info_parts int_info
  clear h bb hO
  cases KA with
  | none =>
    obtain ⟨rfl, rfl⟩ := hcap rfl
    have hbox : ¬ fp w.heap.size := fun h => by
      have h2 := H0.out.d.2 _ h
      omega
    go_enter Try.func16, Try.ntmps16
    go_upto_region 33 with (fail)
    generalize w.alloc (.cells #[.int .i64 4, .int .i64 a, .int .i64 b, .slice none 0 0] 33) = W at *
    go_upto_region 34 with (go_at_call 26; (with_reducible refine (dk_crash W hN none 0 0 ks (fun i hi => absurd hi (Nat.not_lt_zero _)) H1.out.d).mono ?_); rintro e w2 ⟨rfl, hd, hk⟩; have HD := Lib.hid hd; have HK := Lib.hid hk; have HR := Lib.hid (rd_frame H1.out.r hk (apart_symm H1.out.apart)); have c2 := (World.cell?_of_block (a := ⟨w.heap.size, 3, none⟩) (hk.block w.heap.size (lies_lt LB.out) hbox)).trans cK; clear hd hk)
    clear cK
    go_wp2_with (go_at_call 38; (with_reducible refine (rd_crash w2 hN none 0 0 ks (by decide) (fun i hi => absurd hi (Nat.not_lt_zero _)) HR.out).mono ?_); rintro e w3 ⟨rfl, hd, hk⟩; have HR2 := Lib.hid hd; have HK2 := Lib.hid hk; clear hd hk)
    go_ret
    exact ⟨rfl, ⟨dk_frame HD.out HK2.out H1.out.apart, HR2.out, H1.out.apart⟩, keeps_pre BB.out (keeps_both HK.out HK2.out)⟩
  | some ad =>
    clear hcap
    have hbox : ¬ fp w.heap.size := fun h => by
      have h2 := H0.out.d.2 _ h
      omega
    go_enter Try.func16, Try.ntmps16
    go_upto_region 32 with (fail)
    generalize w.alloc (.cells #[.int .i64 4, .int .i64 a, .int .i64 b, .slice (some ad) kl kc] 33) = W at *
    have hnews : ∀ j u, ((List.range kl).map fun i => Value.int .i64 (ks i))[j]? = some u → W.cell? (ad.add j) = some u := fun j u hj => by
      have hj2 : j < kl := by
        rcases Nat.lt_or_ge j kl with h | h
        · exact h
        · rw [List.getElem?_eq_none (by simpa using h)] at hj; cases hj
      obtain ⟨b', o', e, _, _, _, hc⟩ := HO.out j hj2
      injection e with e
      subst e
      rw [Addr.add_mid, hc]
      simpa [hj2] using hj
    have NW := Lib.hid hnews
    clear hnews
    go_upto_region 33 with (at_builtin; refine wpList_append_own _ rfl _ _ 31 rfl W.heap.size 3 i0 (.int .i64 0) 1 8 Try.underlying31 hi hz0 hz1 hz2 rfl (by decide) (.slice none 0 0) 0 [] rfl (World.ownsRow_nil _ _ _ _) ad kl kc ((List.range kl).map fun i => Value.int .i64 (ks i)) rfl (by simp) NW.out (by intro u hu; obtain ⟨x, _, rfl⟩ := List.mem_map.1 hu; rfl) (by unfold maxLen; omega) (by omega) (Nat.le_refl _) ?_; intro v' w1 hown' hgrow _; rw [Nat.zero_add, List.nil_append] at hown'; obtain ⟨A', C', rfl, hT, hOu, hA'⟩ := behind_copy H1.out hown' (grown_below (B := W.heap.size) hgrow (fun k e => by cases e) (Nat.le_refl _)) HO.out; have HT := Lib.hid hT; have HOU := Lib.hid hOu; have HA := Lib.hid hA'; have B1 := Lib.hid (grown_below (B := W.heap.size) hgrow (fun k e => by cases e) (Nat.le_refl _)); clear hT hOu hA' hown' hgrow)
    have cK1 := (B1.out.cell (p := ⟨w.heap.size, 3, none⟩) (lies_lt LB.out)).trans cK
    have hbl := Nat.lt_of_lt_of_le (lies_lt LB.out) B1.out.size
    clear cK
    go_upto_region 34 with (go_at_call 26; (with_reducible refine (dk_crash w1 hN A' kl C' ks HA.out HT.out.d).mono ?_); rintro e w2 ⟨rfl, hd, hk⟩; have HD := Lib.hid hd; have HK := Lib.hid hk; have HR := Lib.hid (rd_frame HT.out.r hk (apart_symm HT.out.apart)); have HO2 := Lib.hid (outs_keeps HOU.out hk (fun _ h => .inl h)); have c2 := (World.cell?_of_block (a := ⟨w.heap.size, 3, none⟩) (hk.block w.heap.size hbl hbox)).trans cK1; clear hd hk)
    clear cK1
    have RC := Lib.hid (rd_crash w2 hN (some ad) kl kc ks (by omega) (fun i hi => by obtain ⟨b', o', e, x1, _, x2, x3⟩ := HO2.out i hi; exact ⟨b', o', e, x1, x2, x3⟩) HR.out)
    go_wp2_with (go_at_call 38; (with_reducible refine RC.out.mono ?_); rintro e w3 ⟨rfl, hd, hk⟩; have HR2 := Lib.hid hd; have HK2 := Lib.hid hk; clear hd hk)
    go_ret
    exact ⟨rfl, ⟨dk_frame HD.out HK2.out HT.out.apart, HR2.out, HT.out.apart⟩, keeps_pre BB.out (keeps_pre B1.out (keeps_both HK.out HK2.out))⟩
end
end Go.Proofs.Ytibidljblkfciaa
