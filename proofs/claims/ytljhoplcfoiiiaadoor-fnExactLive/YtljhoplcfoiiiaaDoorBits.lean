/- Bitwise ops on int64: the six lowest bits; a bitwise sum taken twice. -/
import Derived.Test.YtljhoplcfoiiiaaDoorRows
import Derived.WalkKit
import Derived.Laws.Bits64
import Derived.Laws.BitsAllLaws
namespace Go.Proofs.YtljhoplcfoiiiaaDoor
open Go.RowKit
theorem i64_wrap (n : Int) : IntKind.i64.wrap n = wrap64 n := by
  simp [IntKind.wrap, IntKind.bits, IntKind.signed]
  unfold wrap64
  omega

theorem bv_toNat (b : Int) : ((BitVec.ofInt 64 b).toNat : Int) = b % 18446744073709551616 := by
  rw [BitVec.toNat_ofInt]
  show (((b % 18446744073709551616).toNat : Nat) : Int) = _
  omega

theorem and63 (b : Int) : bits .and .i64 b 63 = b % 64 := by
  show IntKind.i64.wrap ((BitVec.ofInt 64 b &&& BitVec.ofInt 64 63).toNat : Int) = _
  have h63 : (BitVec.ofInt 64 63).toNat = 63 := by decide
  rw [BitVec.toNat_and, h63, nat_mask6, i64_wrap]
  have := bv_toNat b
  unfold wrap64
  omega

theorem bv_back (x : BitVec 64) : BitVec.ofInt 64 (wrap64 (x.toNat : Int)) = x := by
  apply BitVec.eq_of_toNat_eq
  have h := bv_toNat (wrap64 (x.toNat : Int))
  have hx := x.isLt
  unfold wrap64 at h
  unfold wrap64
  omega

theorem bv_int (a : Int) (h0 : -9223372036854775808 ≤ a) (h1 : a ≤ 9223372036854775807) : wrap64 ((BitVec.ofInt 64 a).toNat : Int) = a := by
  rw [bv_toNat]; unfold wrap64; omega

theorem xor_twice (a b : Int) (h0 : -9223372036854775808 ≤ a) (h1 : a ≤ 9223372036854775807) : bits .xor .i64 (bits .xor .i64 a b) b = a := by
  show IntKind.i64.wrap ((BitVec.ofInt 64 (IntKind.i64.wrap ((BitVec.ofInt 64 a ^^^ BitVec.ofInt 64 b).toNat : Int)) ^^^ BitVec.ofInt 64 b).toNat : Int) = a
  rw [i64_wrap, i64_wrap, bv_back, BitVec.xor_assoc, BitVec.xor_self, BitVec.xor_zero, bv_int a h0 h1]
end Go.Proofs.YtljhoplcfoiiiaaDoor
