/-
What is proved here: the law's own look at two answers that the document fixes, by a contract.
-/
import Derived.Test.YtekccgdlohofkaaDoorCrc
import Derived.Lib.SlBytesConst
set_option linter.unusedSimpArgs false
namespace Go.Proofs.YtekccgdlohofkaaDoor
open Go.Word Go.RowKit

def nine : List (BitVec 8) := [49#8, 50#8, 51#8, 52#8, 53#8, 54#8, 55#8, 56#8, 57#8]
def three : List (BitVec 8) := [97#8, 98#8, 99#8]
theorem crc_nine : more 0 nine = 3421780262 := by decide +kernel
theorem sha_three : sha key three 0 = 186#8 := by decide +kernel
theorem byt_new (w : World) (t : TypeId) (fr : Nat × Nat) (b : List (BitVec 8)) (cs : Array Value) (h : cs = (b.map Y).toArray) : Byt (w.alloc (.cells cs t fr)) (some ⟨w.heap.size, 0, none⟩) b := fun _ =>
  ⟨_, rfl, by simp, fun j hj => by
    rw [Addr.add_mid, Nat.zero_add, cell_of_row _ w.heap.size j cs t fr (heap_alloc_new w _), h]
    simp [hj, List.getD_eq_getElem?_getD]⟩
theorem index_three (W : World) : (Instr.index 30 (.agg (yRow (sha key three) 32)) (.int .i64 0)).run Tryd.prog W = .ok (.int .u8 186) W := by
  have h : (Instr.index 30 (.agg (yRow (sha key three) 32)) (.int .i64 0)).run Tryd.prog W = .ok (Y (sha key three 0)) W := by kernel_rfl
  rw [h, sha_three]; rfl
/-- both tables lie in their blocks -/
def Tabs (w : World) : Prop := Keyed w ∧ Halved w
theorem tabs_below {w w' : World} (h : Tabs w) (hb : Below w.heap.size w w') : Tabs w' := by
  refine ⟨keyed_below h.1 hb, ?_⟩
  obtain ⟨h1, hc⟩ := h.2
  have hz := hb.size
  exact ⟨by omega, fun i hi => by rw [hb.cell (p := ⟨0, i, none⟩) (by show 0 < _; omega)]; exact hc i hi⟩
theorem below_new (w : World) (o : Obj) : Below w.heap.size w (w.alloc o) := (Below.refl _ _).alloc (Nat.le_refl _) o

theorem below_eq {w w1 : World} {o : Obj} (h : w.alloc o = w1) : Below w.heap.size w w1 := h ▸ below_new w o
theorem crc_nine_any (A : Option Addr) (w : World) (hT : Tabs w) (hs : Byt w A nine) : Calls Tryd.prog 13 #[.slice A 9 9] w fun e w' => e = .returned (.int .i64 3421780262) ∧ w = w' := by
  have := crc_any A 9 9 nine w rfl hT.2 hs (by decide)
  rwa [crc_nine] at this

set_option maxHeartbeats 400000 in
theorem alive_any (w : World) (hT : Tabs w) : Calls Tryd.prog 11 #[] w fun e w' => e = .returned (.bool true) ∧ Below w.heap.size w w' := by
  have kc := fun (w : World) (C : Array Value) (n c : Nat) => Lib.run_convert_bytes_const (P := Tryd.prog) w 22 5 C n c Tryd.underlying22 Tryd.underlying5
  have hx := fun W => index_three W
  have HT := Lib.hid hT
  clear hT
  go_enter Tryd.func11, Tryd.ntmps11
  go_wp2_with (first
    | (go_at_call 13; (refine (crc_nine_any _ _ (tabs_below HT.out (below_new _ _)) (byt_new _ _ _ _ _ rfl)).mono ?_); rintro e w1 ⟨rfl, hw⟩; have hb := below_eq hw; have HB1 := Lib.hid hb; clear hw hb)
    | (go_at_call 18; (refine (sha_any _ 3 3 three _ rfl (tabs_below HT.out (HB1.out.trans ((below_new _ _).mono HB1.out.size))).1 (byt_new _ _ _ _ _ rfl) (Nat.le_refl _) (by decide)).mono ?_); rintro e w2 ⟨rfl, hb⟩; have HB2 := Lib.hid hb; clear hb))
  go_ret
  exact ⟨rfl, (HB1.out.trans ((below_new _ _).mono HB1.out.size)).trans (HB2.out.mono (by have := HB1.out.size; simp; omega))⟩
end Go.Proofs.YtekccgdlohofkaaDoor
