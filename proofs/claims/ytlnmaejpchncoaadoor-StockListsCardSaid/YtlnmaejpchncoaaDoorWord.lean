/-
What is proved here: Go's 32-bit words as bit vectors: what each operation on them answers. Of whatever program.
-/
import Derived.WalkKit
import Derived.Test.YtlnmaejpchncoaaDoorPure
namespace Go.Word

/-- a 32-bit word as Go holds it -/
def U (x : BitVec 32) : Value := .int .u32 (x.toNat : Int)
/-- a byte as Go holds it -/
def Y (x : BitVec 8) : Value := .int .u8 (x.toNat : Int)

theorem wrap32 (n : Int) : IntKind.u32.wrap n = n % 4294967296 := by simp [IntKind.wrap, IntKind.bits, IntKind.signed]
theorem wrap8 (n : Int) : IntKind.u8.wrap n = n % 256 := by simp [IntKind.wrap, IntKind.bits, IntKind.signed]
theorem of32 (x : BitVec 32) : BitVec.ofInt 32 (x.toNat : Int) = x := by simp
theorem lt32 (x : BitVec 32) : x.toNat < 4294967296 := x.isLt
theorem lt8 (x : BitVec 8) : x.toNat < 256 := x.isLt
theorem wrap_of (x : BitVec 32) : IntKind.u32.wrap (x.toNat : Int) = x.toNat := by rw [wrap32]; have := lt32 x; omega
theorem lit32 (n : Int) (x : BitVec 32) (h : (x.toNat : Int) = n) : Value.int .u32 n = U x := by subst h; rfl

theorem u_xor (t : TypeId) (x y : BitVec 32) : binOp .xor t (U x) (U y) = pure (U (x ^^^ y)) := by
  show Op.intBits .xor .u32 _ _ = _
  rw [intBits_xor]
  show pure (Value.int .u32 (IntKind.u32.wrap ((BitVec.ofInt 32 (x.toNat : Int) ^^^ BitVec.ofInt 32 (y.toNat : Int) : BitVec 32)).toNat)) = _
  rw [of32, of32, wrap_of]; rfl
theorem u_and (t : TypeId) (x y : BitVec 32) : binOp .and t (U x) (U y) = pure (U (x &&& y)) := by
  show Op.intBits .and .u32 _ _ = _
  rw [intBits_and]
  show pure (Value.int .u32 (IntKind.u32.wrap ((BitVec.ofInt 32 (x.toNat : Int) &&& BitVec.ofInt 32 (y.toNat : Int) : BitVec 32)).toNat)) = _
  rw [of32, of32, wrap_of]; rfl
theorem u_or (t : TypeId) (x y : BitVec 32) : binOp .or t (U x) (U y) = pure (U (x ||| y)) := by
  show Op.intBits .or .u32 _ _ = _
  rw [intBits_or]
  show pure (Value.int .u32 (IntKind.u32.wrap ((BitVec.ofInt 32 (x.toNat : Int) ||| BitVec.ofInt 32 (y.toNat : Int) : BitVec 32)).toNat)) = _
  rw [of32, of32, wrap_of]; rfl
theorem u_add (t : TypeId) (x y : BitVec 32) : binOp .add t (U x) (U y) = pure (U (x + y)) := by
  show Op.intArith .add .u32 _ _ = _
  have e : Op.intArith .add .u32 (x.toNat : Int) (y.toNat : Int) = pure (Value.int .u32 (IntKind.u32.wrap ((x.toNat : Int) + y.toNat))) := rfl
  rw [e, wrap32]
  unfold U
  rw [BitVec.toNat_add]
  rfl
theorem u_shl (t : TypeId) (k : IntKind) (x : BitVec 32) (n : Int) (h0 : 0 ≤ n) (h1 : n ≤ 32) : binOp .shl t (U x) (.int k n) = pure (U (x <<< n.toNat)) := by
  show Op.shift .shl .u32 _ k n = _
  rw [shift_shl .u32 k _ n h0 (by simpa [IntKind.bits] using h1), wrap32]
  unfold U
  rw [BitVec.toNat_shiftLeft, Nat.shiftLeft_eq, Int.natCast_emod, Int.natCast_mul, Int.natCast_pow]
  rfl
theorem u_shr (t : TypeId) (k : IntKind) (x : BitVec 32) (n : Int) (h0 : 0 ≤ n) (h1 : n ≤ 32) : binOp .shr t (U x) (.int k n) = pure (U (x >>> n.toNat)) := by
  show Op.shift .shr .u32 _ k n = _
  rw [shift_shr .u32 k _ n h0 (by simpa [IntKind.bits] using h1)]
  unfold U
  rw [BitVec.toNat_ushiftRight, Nat.shiftRight_eq_div_pow]
  norm_cast
theorem u_not (x : BitVec 32) : Op.unary .xor (U x) = pure (U (~~~x)) := by
  show Op.intBits .xor .u32 _ _ = _
  rw [intBits_xor]
  show pure (Value.int .u32 (IntKind.u32.wrap ((BitVec.ofInt 32 (4294967295 : Int) ^^^ BitVec.ofInt 32 (x.toNat : Int) : BitVec 32)).toNat)) = _
  rw [of32, wrap_of, show BitVec.ofInt 32 (4294967295 : Int) = BitVec.allOnes 32 by decide, BitVec.allOnes_xor]; rfl
theorem u_eql (t : TypeId) (x y : BitVec 32) : binOp .eql t (U x) (U y) = pure (.bool (decide (x = y))) := by
  show Op.intCmp .eql _ _ = _
  have e : Op.intCmp .eql (x.toNat : Int) (y.toNat : Int) = pure (.bool (decide ((x.toNat : Int) = y.toNat))) := rfl
  rw [e]
  have : ((x.toNat : Int) = y.toNat) ↔ x = y := ⟨fun h => BitVec.eq_of_toNat_eq (by omega), fun h => by rw [h]⟩
  simp [this]
theorem y_word (P : Program) (s t : TypeId) (x : BitVec 8) (w : World) (hs : P.underlying s = some (.int .u8)) (ht : P.underlying t = some (.int .u32)) : (convert s t (Y x)).run P w = .ok (U (wide x)) w := by
  unfold convert
  rw [Sem.run_bind, run_underlying hs w]
  simp only [Result.andThen_ok]
  rw [Sem.run_bind, run_underlying ht w]
  show Sem.run P (Conv.intToInt .u32 _) w = _
  unfold Conv.intToInt
  show Result.ok (Value.int .u32 (IntKind.u32.wrap (x.toNat : Int))) w = _
  have e : (wide x).toNat = x.toNat := by unfold wide; rw [BitVec.toNat_setWidth]; have := lt8 x; omega
  rw [wrap32]; unfold U; rw [e]; have := lt8 x
  rw [show (x.toNat : Int) % 4294967296 = x.toNat by omega]
theorem u_byte (P : Program) (s t : TypeId) (x : BitVec 32) (w : World) (hs : P.underlying s = some (.int .u32)) (ht : P.underlying t = some (.int .u8)) : (convert s t (U x)).run P w = .ok (Y (low x)) w := by
  unfold convert
  rw [Sem.run_bind, run_underlying hs w]
  simp only [Result.andThen_ok]
  rw [Sem.run_bind, run_underlying ht w]
  show Sem.run P (Conv.intToInt .u8 _) w = _
  unfold Conv.intToInt
  show Result.ok (Value.int .u8 (IntKind.u8.wrap (x.toNat : Int))) w = _
  rw [wrap8]; unfold Y low; rw [BitVec.toNat_setWidth]; rfl
theorem u_int (P : Program) (s t : TypeId) (x : BitVec 32) (w : World) (hs : P.underlying s = some (.int .u32)) (ht : P.underlying t = some (.int .i64)) : (convert s t (U x)).run P w = .ok (.int .i64 (x.toNat : Int)) w := by
  unfold convert
  rw [Sem.run_bind, run_underlying hs w]
  simp only [Result.andThen_ok]
  rw [Sem.run_bind, run_underlying ht w]
  show Sem.run P (Conv.intToInt .i64 _) w = _
  unfold Conv.intToInt
  show Result.ok (Value.int .i64 (IntKind.i64.wrap (x.toNat : Int))) w = _
  rw [IntWalk.i64_in _ (by have := lt32 x; omega)]
/-- the lowest 32 bits of an int -/
def cut (n : Int) : BitVec 32 := BitVec.ofInt 32 n
theorem int_word (P : Program) (s t : TypeId) (n : Int) (w : World) (hs : P.underlying s = some (.int .i64)) (ht : P.underlying t = some (.int .u32)) : (convert s t (.int .i64 n)).run P w = .ok (U (cut n)) w := by
  unfold convert
  rw [Sem.run_bind, run_underlying hs w]
  simp only [Result.andThen_ok]
  rw [Sem.run_bind, run_underlying ht w]
  show Sem.run P (Conv.intToInt .u32 _) w = _
  unfold Conv.intToInt
  show Result.ok (Value.int .u32 (IntKind.u32.wrap n)) w = _
  rw [wrap32]; unfold U cut
  rw [show ((BitVec.ofInt 32 n).toNat : Int) = n % 4294967296 by rw [BitVec.toNat_ofInt]; omega]
theorem store_u (P : Program) (w : World) (a : Addr) (m : Mode) (x : BitVec 32) : (store a (U x) m).run P w = stored P w a (U x) m := run_store P w a _ m rfl
theorem store_y (P : Program) (w : World) (a : Addr) (m : Mode) (x : BitVec 8) : (store a (Y x) m).run P w = stored P w a (Y x) m := run_store P w a _ m rfl
theorem add_none (a : Addr) : a.add 0 = a := by unfold Addr.add; simp
theorem store_one (P : Program) (w : World) (a : Addr) (v : Value) (hv : v.oneCell' = true) : (storeCells a [v]).run P w = stored P w a v .plain := by
  unfold storeCells
  rw [Sem.run_bind, add_none, run_store P w a v .plain hv]
  unfold storeCells stored
  cases w.cell? a with
  | none => cases w.farStore P a v ((Mode.plain) == .atomic) <;> rfl
  | some u => by_cases h : w.frozen? a = true <;> simp [h]
theorem store_us (P : Program) (w : World) (a : Addr) (x : BitVec 32) : (storeCells a [U x]).run P w = stored P w a (U x) .plain := store_one P w a _ rfl
theorem store_ys (P : Program) (w : World) (a : Addr) (x : BitVec 8) : (storeCells a [Y x]).run P w = stored P w a (Y x) .plain := store_one P w a _ rfl
end Go.Word
