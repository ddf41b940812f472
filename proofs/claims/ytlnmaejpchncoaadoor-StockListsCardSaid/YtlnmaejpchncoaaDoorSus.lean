/-
What is proved here: Sums of a list of contents, by a contract.
-/
import Derived.Test.YtlnmaejpchncoaaDoorKLn
import Derived.Test.YtlnmaejpchncoaaDoorSumR
import Derived.Test.YtlnmaejpchncoaaDoorSame
set_option linter.unusedSimpArgs false
set_option linter.unusedVariables false
namespace Go.Proofs.YtlnmaejpchncoaaDoor
open Go.Word Go.RowKit
abbrev Bt := List UInt8
/-- the bytes as words of eight bits -/
def kb (b : Bt) : List (BitVec 8) := b.map UInt8.toBitVec
theorem kb_len (b : Bt) : (kb b).length = b.length := by simp [kb]
theorem byt_of {w : World} {A : Option Addr} {b : Bt} (h : K.BytesAt w A b) : Byt w A (kb b) := fun h0 => by
  rw [kb_len] at h0
  obtain ⟨g, o, e, hl, _⟩ := h 0 h0
  refine ⟨⟨g, o, none⟩, e, hl, fun j hj => ?_⟩
  rw [kb_len] at hj
  obtain ⟨g', o', e', _, hc⟩ := h j hj
  rw [e] at e'
  injection e' with e'
  injection e' with a1 a2 _
  subst a1 a2
  rw [Addr.add_mid, hc]
  have e3 : (kb b).getD j 0 = b[j].toBitVec := by simp [kb, List.getD_eq_getElem?_getD, List.getElem?_eq_getElem hj]
  rw [e3]
  rfl
/-- a list of contents, each in a slice with room for it -/
def ListC (w : World) (A : Option Addr) (ls : List Bt) : Prop := ∀ i (h : i < ls.length), ∃ b o DA dc, A = some ⟨b, o, none⟩ ∧ b < w.heap.size ∧
  w.cell? ⟨b, o + i, none⟩ = some (.slice DA ls[i].length dc) ∧ K.BytesAt w DA ls[i] ∧ ls[i].length ≤ dc ∧ (DA = none → dc = 0)
theorem listC_at {w : World} {A : Option Addr} {ls : List Bt} (h : ListC w A ls) : K.ListAt w A ls := fun i hi => by
  obtain ⟨b, o, DA, dc, e, hl, h1, h2, _⟩ := h i hi
  exact ⟨b, o, DA, dc, e, hl, h1, h2⟩
theorem listC_below {w w' : World} {A : Option Addr} {ls : List Bt} (h : ListC w A ls) (hb : Below w.heap.size w w') : ListC w' A ls := fun i hi => by
  obtain ⟨b, o, DA, dc, e, hl, h1, h3, h4⟩ := h i hi
  exact ⟨b, o, DA, dc, e, Nat.lt_of_lt_of_le hl hb.size, (hb.cell (p := ⟨b, o + i, none⟩) hl).trans h1, K.bytesAt_below h3 hb, h4⟩
theorem dig_info : (Tryd.prog.info? 35).map (fun i => (i.zero, i.size, i.bytes)) = some (some (.agg (yRow (fun _ => 0) 32)), 32, 32) := by kernel_rfl
set_option maxRecDepth 100000 in
theorem sums1_any (i T : Nat) (LA : Option Addr) (lc : Nat) (ls : List Bt) (w : World) (hk : Keyed w) (hT : w.cell? ⟨T, 0, none⟩ = some (.slice LA ls.length lc)) (hTl : T < w.heap.size) (hL : ListC w LA ls) (hi : i < ls.length) (hn : ls.length ≤ 1000000) (hb : ls[i].length ≤ 100000) :
    Calls Tryd.prog 16 #[.int .i64 (i : Int), .pointer (some ⟨T, 0, none⟩)] w fun e w' => e = .returned (.agg (yRow (sha key (kb ls[i])) 32)) ∧ Below w.heap.size w w' := by
  obtain ⟨b, o, DA, dc, eA, hbl, hcell, hby, hcap, _⟩ := hL i hi
  subst eA
  have hli : (i : Int) < (ls.length : Int) := by omega
  obtain ⟨q, hq⟩ : ∃ q, q = kb ls[i] := ⟨_, rfl⟩
  rw [← hq]
  have HQ := Lib.hid hq
  clear hq
  go_enter Tryd.func16, Tryd.ntmps16
  go_upto_region 1 with (fail)
  obtain ⟨Z, hZ⟩ : ∃ Z : Array Value, Z = #[.int .u8 0, .int .u8 0, .int .u8 0, .int .u8 0, .int .u8 0, .int .u8 0, .int .u8 0, .int .u8 0, .int .u8 0, .int .u8 0, .int .u8 0, .int .u8 0, .int .u8 0, .int .u8 0, .int .u8 0, .int .u8 0, .int .u8 0, .int .u8 0, .int .u8 0, .int .u8 0, .int .u8 0, .int .u8 0, .int .u8 0, .int .u8 0, .int .u8 0, .int .u8 0, .int .u8 0, .int .u8 0, .int .u8 0, .int .u8 0, .int .u8 0, .int .u8 0] := ⟨_, rfl⟩
  have zs : Z.size = 32 := by rw [hZ]; rfl
  rw [← hZ]
  have LW := Lib.hid (lies_new w 35 Z)
  have bw := below_new w (.cells Z 35)
  have c1 := (bw.cell (p := ⟨T, 0, none⟩) hTl).trans hT
  have c2 := (bw.cell (p := ⟨b, o + i, none⟩) hbl).trans hcell
  have BW := Lib.hid bw
  have ZS := Lib.hid zs
  have H := Lib.hid (sha_any DA (kb ls[i]).length dc (kb ls[i]) (w.alloc (.cells Z 35)) rfl (keyed_below hk bw) (byt_of (K.bytesAt_below hby bw)) (by rw [kb_len]; exact hcap) (by rw [kb_len]; omega))
  rw [kb_len, ← HQ.out] at H
  clear hZ zs bw hk hT hTl hL hbl hcell hby hcap
  clear HQ
  generalize ls[i].length = z at *
  go_wp2_with (first
    | (go_at_call 17; (with_reducible refine H.out.mono ?_); rintro e w1 ⟨rfl, hb⟩; have B := Lib.hid hb; have L1 := Lib.hid (lies_below LW.out hb (lies_lt LW.out)); clear hb)
    | (refine wpList_store_row rfl 35 _ _ rfl w.heap.size (yRow (sha key q) 32) rfl rfl 35 Z L1.out (by rw [yRow_size]; kernel_rfl) (by rw [yRow_size]; exact ZS.out) (yRow_one _ _) ?_))
  refine bodyPost_ret (results_cell_row rfl _ _ w.heap.size 35 (yRow (sha key q) 32) (0, 0) _ rfl (lies_setRow L1.out _) Tryd.underlying35 rfl (by rw [yRow_size]; kernel_rfl)) rfl ⟨rfl, below_setRow (BW.out.trans (B.out.mono BW.out.size)) (Nat.le_refl _) _⟩
/-- what of the digests is laid -/
def DigAt (w : World) (g i n : Nat) (ls : List Bt) : Prop := g < w.heap.size ∧ w.there g 0 (n * 32) ∧ ∀ j (h : j < ls.length), j < i → w.rangeAt g (j * 32) (yRow (sha key (kb ls[j])) 32).toList
theorem dig_below {w w' : World} {g i n : Nat} {ls : List Bt} (h : DigAt w g i n ls) (hb : Below w.heap.size w w') : DigAt w' g i n ls := by
  obtain ⟨h1, h2, h3⟩ := h
  have hc : ∀ j, w'.cell? ⟨g, j, none⟩ = w.cell? ⟨g, j, none⟩ := fun j => hb.cell (p := ⟨g, j, none⟩) h1
  refine ⟨Nat.lt_of_lt_of_le h1 hb.size, fun j hj => ?_, fun j hj hi k v hv => ?_⟩
  · rw [hc]
    refine ⟨(h2 j hj).1, ?_⟩
    have := (h2 j hj).2
    unfold World.frozen? at this ⊢
    rw [hb.block g h1]
    exact this
  · rw [hc]
    exact h3 j hj hi k v hv
theorem dig_put {w : World} {g i n : Nat} {ls : List Bt} (h : DigAt w g i n ls) (hn : n = ls.length) (hi : i < ls.length) : DigAt (w.setCells g (i * 32) (yRow (sha key (kb ls[i])) 32).toList) g (i + 1) n ls := by
  obtain ⟨h1, h2, h3⟩ := h
  have hl : (yRow (sha key (kb ls[i])) 32).toList.length = 32 := by rw [Array.length_toList, yRow_size]
  refine ⟨?_, World.there_setCells h2 _ _ _, fun j hj hji => ?_⟩
  · exact Nat.lt_of_lt_of_le h1 (only_setCells _ _ _ (only_refl w g)).size
  · by_cases e : j = i
    · subst e
      exact World.rangeAt_setCells_same w g (j * 32) _ (fun k hk => by
        have := h2 (j * 32 + k) (by rw [hl] at hk; omega)
        rwa [Nat.zero_add] at this)
    · refine World.rangeAt_setCells_apart (h3 j hj (by omega)) g (i * 32) _ (.inr ?_)
      rw [hl, Array.length_toList, yRow_size]
      omega
theorem dig_new (w : World) (n : Nat) (ls : List Bt) (cs : Array Value) (hs : cs.size = n * 32) : DigAt (w.alloc (.cells cs 35)) w.heap.size 0 n ls :=
  ⟨by simp, there_of (lies_new w 35 cs) (by omega), fun j _ h => by omega⟩
theorem below_setCells {B : Nat} {a w : World} (h : Below B a w) {g : Nat} (hg : B ≤ g) (hB : B ≤ w.heap.size) (o : Nat) (vs : List Value) : Below B a (w.setCells g o vs) :=
  h.grown (only_setCells vs o w (only_refl w g)) hB (fun k e => by injection e with e; omega)
set_option maxRecDepth 100000 in
set_option maxHeartbeats 4000000 in
theorem gather_any (T : Nat) (LA : Option Addr) (lc : Nat) (ls : List Bt) (w : World) (hk : Keyed w) (hT : w.cell? ⟨T, 0, none⟩ = some (.slice LA ls.length lc)) (hTl : T < w.heap.size) (hL : ListC w LA ls) (hn : ls.length ≤ 100000) (hb : ∀ x ∈ ls, x.length ≤ 100000) :
    Calls Tryd.prog 15 #[.int .i64 (ls.length : Nat), .func (.func 16) #[] #[.pointer (some ⟨T, 0, none⟩)]] w fun e w' => e = .returned (.slice (some ⟨w.heap.size, 0, none⟩) ls.length ls.length) ∧ DigAt w' w.heap.size ls.length ls.length ls ∧ Below w.heap.size w w' := by
  have HB := Lib.hid hb
  obtain ⟨n, hne⟩ : ∃ n, n = ls.length := ⟨_, rfl⟩
  have NE := Lib.hid hne
  have mk : ∃ cs : Array Value, cs.size = n * 32 ∧ (Instr.makeSlice 28 (.int .i64 (n : Int)) (.int .i64 (n : Int))).run Tryd.prog w = .ok (.slice (some ⟨w.heap.size, 0, none⟩) n n) (w.alloc (.cells cs 35)) := by
    have hi : ∃ i, Tryd.prog.info? 35 = some i ∧ i.zero = some (.agg (yRow (fun _ => 0) 32)) ∧ i.size = 32 ∧ i.bytes = 32 := by
      obtain ⟨i, h1, h2, h3, h4⟩ := info_parts dig_info
      exact ⟨i, h1, h2, h3, h4⟩
    obtain ⟨i, hi, hz0, hz1, hz2⟩ := hi
    have := run_makeSlice (P := Tryd.prog) w 28 35 i _ Tryd.underlying28 hi hz0 .i64 .i64 (n : Int) (n : Int) (by omega) (by omega) (by rw [hz1]; omega) (by rw [hz2]; omega) (by omega)
    exact ⟨madeCells (Value.cells (.agg (yRow (fun _ => 0) 32))) (n * 32), by simp [madeCells], by rw [this, hz1, Int.toNat_natCast]⟩
  obtain ⟨cs, hcs, mk⟩ := mk
  have HS := Lib.hid (show ∀ (W : World) (i : Nat) (hi : i < ls.length), Below w.heap.size w W → Calls Tryd.prog 16 #[.int .i64 (i : Int), .pointer (some ⟨T, 0, none⟩)] W fun e w' => e = .returned (.agg (yRow (sha key (kb ls[i])) 32)) ∧ Below W.heap.size W w' from fun W i hi hbw =>
    sums1_any i T LA lc ls W (keyed_below hk hbw) ((hbw.cell (p := ⟨T, 0, none⟩) hTl).trans hT) (Nat.lt_of_lt_of_le hTl hbw.size) (listC_below hL hbw) hi (by omega) (hb _ (List.getElem_mem hi)))
  have D0 := Lib.hid (dig_new w n ls cs hcs)
  have B0 := Lib.hid (below_new w (.cells cs 35))
  rw [← hne] at hn ⊢
  clear hk hT hTl hL hb hne hcs
  go_enter Tryd.func15, Tryd.ntmps15
  go_upto_region 2 with (fail)
  generalize w.alloc (.cells cs 35) = W1 at *
  clear mk
  go_wp2
  go_loopw [6, 11] (fun _ v11 wr => ∃ i : Nat, i ≤ n ∧ v11 = .int .i64 (i : Int) ∧ DigAt wr w.heap.size i n ls ∧ Below w.heap.size w wr) (fun _ v11 _ => n - (intOf v11).toNat)
  case atStart => exact ⟨0, Nat.zero_le _, rfl, D0.out, B0.out⟩
  case round =>
    obtain ⟨i, hi, rfl, hd, hb⟩ := hrel
    have HD := Lib.hid hd
    have HW := Lib.hid hb
    clear hd hb
    by_cases hlt : i < n
    · have li : (i : Int) < (n : Int) := by omega
      have lf : i < ls.length := by have := NE.out; omega
      have H := Lib.hid (HS.out wr i lf HW.out)
      have PD := Lib.hid (fun (W : World) (h : DigAt W w.heap.size i n ls) => dig_put h NE.out lf)
      generalize kb ls[i] = q at *
      go_wp2_with (first
        | (go_at_call 16; (with_reducible refine H.out.mono ?_); rintro e w2 ⟨rfl, hb2⟩; have D2 := Lib.hid (dig_below HD.out hb2); have W2 := Lib.hid (HW.out.trans (hb2.mono HW.out.size)); clear hb2)
        | (refine wpList_store_mid rfl 35 _ _ rfl w.heap.size (i * 32) (yRow (sha key q) 32) rfl rfl (fun k hk => by
            have := D2.out.2.1 (i * 32 + k) (by rw [yRow_size] at hk; omega)
            rwa [Nat.zero_add] at this) (by rw [yRow_size]; kernel_rfl) (yRow_one _ _) ?_))
      go_roundw
      case rel => exact ⟨i + 1, by omega, by go_num, PD.out _ D2.out, below_setCells W2.out (Nat.le_refl _) W2.out.size _ _⟩
      case measure => first | (simp [intOf]; done) | (simp [intOf]; omega)
    · obtain rfl : i = n := by omega
      have li : ¬ ((i : Int) < (i : Int)) := by omega
      go_wp2
      go_ret
      exact ⟨rfl, HD.out, HW.out⟩
end Go.Proofs.YtlnmaejpchncoaaDoor
