/- A number got from a text: what impl.GetNum and spec.GetNum answer, over plain lists of bytes. -/
import Derived.Test.YtnnhoobjnnjnhaaPut
import Derived.ScopeJumps
import Derived.WalkMore
import Derived.Laws.BitsAllLaws
namespace Go.Proofs.Ytnnhoobjnnjnhaa
open Go.RowKit

def unzig (x : Int) : Int := if x % 2 = 1 then -(x / 2) - 1 else x / 2

theorem ret_i64 {a b : Int} (h : a = b) : Ending.returned (.int .i64 a) = .returned (.int .i64 b) := by rw [h]

set_option maxHeartbeats 400000 in
theorem implUnfold (x : Int) (w : World) (h0 : 0 ≤ x) (h1 : x < 18446744073709551616) :
    Calls Try.prog 33 #[.int .u64 x] w fun e w' => e = .returned (.int .i64 (unzig x)) ∧ w' = w := by
  have Ha := Lib.u64_and1 x h0 h1
  by_cases hx : x % 2 = 1
  · have hd := Lib.i64_not (x / 2).toNat (by omega)
    rw [show (((x / 2).toNat : Nat) : Int) = x / 2 by omega] at hd
    have Hd : Hid (bits .xor .i64 (-1) (x / 2) = unzig x) := by unfold unzig; rw [if_pos hx]; exact hd
    clear hd
    go_enter Try.func33, Try.ntmps33
    go_wp2
    go_ret
    exact ⟨ret_i64 Hd.out, rfl⟩
  · have Hd : Hid (x / 2 = unzig x) := by unfold unzig; exact (if_neg hx).symm
    have hx' : x % 2 = 0 := by omega
    clear hx
    go_enter Try.func33, Try.ntmps33
    go_wp2
    go_ret
    exact ⟨ret_i64 Hd.out, rfl⟩
end Go.Proofs.Ytnnhoobjnnjnhaa
