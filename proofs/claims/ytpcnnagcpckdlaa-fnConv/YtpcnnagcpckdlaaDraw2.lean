/- The draws of chapter 3's laws: an op and two numbers; an op and a number. -/
import Derived.Test.YtpcnnagcpckdlaaSrcNum
import Derived.OwnWalk
namespace Go.Proofs.Ytpcnnagcpckdlaa
open Go.RowKit

theorem below_src {w w1 w2 : World} {g : Nat} (hb : Below w.heap.size w w1) (h : w1.grownBy w2 (some g)) (hg : w.heap.size ≤ g) : Below w.heap.size w w2 :=
  hb.trans ((Below.refl _ _).grown h hb.size (fun j hj => by simp at hj; omega))

set_option maxRecDepth 100000 in
set_option maxHeartbeats 800000 in
theorem drawBinary (v : Value) (zs : List Int) (w : World) (hr : Row8 w.heap.size w v zs) (hz : zs.length ≤ 1048576) :
    Calls Try.prog 8 #[v] w fun e w' => ∃ op a b : Int, e = .returned (.tuple #[.int .i64 op, .int .i64 a, .int .i64 b]) ∧ (-9223372036854775808 ≤ a ∧ a ≤ 9223372036854775807) ∧ (-9223372036854775808 ≤ b ∧ b ≤ 9223372036854775807) ∧ Below w.heap.size w w' := by
  have Hr : Hid (Row8 w.heap.size w v zs) := hr
  obtain ⟨ad, cap, rfl⟩ := hr.len
  clear hr
  go_enter Try.func8, Try.ntmps8
  go_wp2_with fail
  refine (srcNew _ zs _ Hr.out hz).mono ?_
  rintro e w1 ⟨rfl, hs1, hb1⟩
  have Hb1 : Hid (Below w.heap.size w w1) := hb1
  clear hb1
  go_wp2_with fail
  refine (srcN w.heap.size w.heap.size 14 _ hs1 (by omega)).mono ?_
  rintro e w2 ⟨x, rfl, hx0, hx1, hs2, hg2⟩
  have Hb2 : Hid (Below w.heap.size w w2) := below_src Hb1.out hg2 (Nat.le_refl _)
  have hx14 : x < 14 := by omega
  clear hs1 hg2 hx1 Hb1
  go_wp2_with fail
  refine (srcOne w.heap.size w.heap.size 20 _ hs2 (by omega)).mono ?_
  rintro e w3 ⟨r, rfl, hs3, hg3⟩
  have Hb3 : Hid (Below w.heap.size w w3) := below_src Hb2.out hg3 (Nat.le_refl _)
  clear hs2 hg3 Hb2
  cases r with
  | false =>
    clear hx0 hx14
    go_wp2_with fail
    refine (srcNum w.heap.size w.heap.size _ hs3).mono ?_
    rintro e w5 ⟨a, rfl, ha0, ha1, hs5, hg5⟩
    have Hb5 : Hid (Below w.heap.size w w5) := below_src Hb3.out hg5 (Nat.le_refl _)
    clear hs3 hg5 Hb3
    go_wp2_with fail
    refine (srcNum w.heap.size w.heap.size _ hs5).mono ?_
    rintro e w6 ⟨b, rfl, hb0, hb1, hs6, hg6⟩
    have Hb6 : Hid (Below w.heap.size w w6) := below_src Hb5.out hg6 (Nat.le_refl _)
    clear hs5 hg6 Hb5
    go_wp2_with fail
    refine (srcOne w.heap.size w.heap.size 3 _ hs6 (by omega)).mono ?_
    rintro e w7 ⟨r, rfl, hs7, hg7⟩
    have Hb7 : Hid (Below w.heap.size w w7) := below_src Hb6.out hg7 (Nat.le_refl _)
    clear hs6 hg7 Hb6
    cases r with
    | false =>
      go_wp2_with fail
      go_ret3
      exact ⟨_, a, b, rfl, ⟨ha0, ha1⟩, ⟨hb0, hb1⟩, Hb7.out⟩
    | true =>
      clear hb0 hb1
      go_wp2_with fail
      refine (srcN w.heap.size w.heap.size 70 _ hs7 (by omega)).mono ?_
      rintro e w8 ⟨z, rfl, hz0, hz1, hs8, hg8⟩
      have Hb8 : Hid (Below w.heap.size w w8) := below_src Hb7.out hg8 (Nat.le_refl _)
      have hz70 : z < 70 := by omega
      clear hs7 hg8 Hb7 hz1
      go_wp2_with fail
      go_ret3
      exact ⟨_, a, z - 3, rfl, ⟨ha0, ha1⟩, ⟨by omega, by omega⟩, Hb8.out⟩
  | true =>
    clear hx0 hx14
    go_wp2_with fail
    refine (srcN w.heap.size w.heap.size 45 _ hs3 (by omega)).mono ?_
    rintro e w4 ⟨y, rfl, hy0, hy1, hs4, hg4⟩
    have Hb4 : Hid (Below w.heap.size w w4) := below_src Hb3.out hg4 (Nat.le_refl _)
    have hy45 : y < 45 := by omega
    clear hs3 hg4 Hb3 hy1
    have hs3 := hs4
    have Hb3 := Hb4
    clear hs4 Hb4
    go_wp2_with fail
    refine (srcNum w.heap.size w.heap.size _ hs3).mono ?_
    rintro e w5 ⟨a, rfl, ha0, ha1, hs5, hg5⟩
    have Hb5 : Hid (Below w.heap.size w w5) := below_src Hb3.out hg5 (Nat.le_refl _)
    clear hs3 hg5 Hb3
    go_wp2_with fail
    refine (srcNum w.heap.size w.heap.size _ hs5).mono ?_
    rintro e w6 ⟨b, rfl, hb0, hb1, hs6, hg6⟩
    have Hb6 : Hid (Below w.heap.size w w6) := below_src Hb5.out hg6 (Nat.le_refl _)
    clear hs5 hg6 Hb5
    go_wp2_with fail
    refine (srcOne w.heap.size w.heap.size 3 _ hs6 (by omega)).mono ?_
    rintro e w7 ⟨r, rfl, hs7, hg7⟩
    have Hb7 : Hid (Below w.heap.size w w7) := below_src Hb6.out hg7 (Nat.le_refl _)
    clear hs6 hg7 Hb6
    cases r with
    | false =>
      go_wp2_with fail
      go_ret3
      exact ⟨_, a, b, rfl, ⟨ha0, ha1⟩, ⟨hb0, hb1⟩, Hb7.out⟩
    | true =>
      clear hb0 hb1
      go_wp2_with fail
      refine (srcN w.heap.size w.heap.size 70 _ hs7 (by omega)).mono ?_
      rintro e w8 ⟨z, rfl, hz0, hz1, hs8, hg8⟩
      have Hb8 : Hid (Below w.heap.size w w8) := below_src Hb7.out hg8 (Nat.le_refl _)
      have hz70 : z < 70 := by omega
      clear hs7 hg8 Hb7 hz1
      go_wp2_with fail
      go_ret3
      exact ⟨_, a, z - 3, rfl, ⟨ha0, ha1⟩, ⟨by omega, by omega⟩, Hb8.out⟩

set_option maxRecDepth 100000 in
set_option maxHeartbeats 800000 in
theorem drawUnary (v : Value) (zs : List Int) (w : World) (hr : Row8 w.heap.size w v zs) (hz : zs.length ≤ 1048576) :
    Calls Try.prog 12 #[v] w fun e w' => ∃ op a : Int, e = .returned (.tuple #[.int .i64 op, .int .i64 a]) ∧ (-9223372036854775808 ≤ a ∧ a ≤ 9223372036854775807) ∧ Below w.heap.size w w' := by
  have Hr : Hid (Row8 w.heap.size w v zs) := hr
  obtain ⟨ad, cap, rfl⟩ := hr.len
  clear hr
  go_enter Try.func12, Try.ntmps12
  go_wp2_with fail
  refine (srcNew _ zs _ Hr.out hz).mono ?_
  rintro e w1 ⟨rfl, hs1, hb1⟩
  have Hb1 : Hid (Below w.heap.size w w1) := hb1
  clear hb1
  go_wp2_with fail
  refine (srcN w.heap.size w.heap.size 6 _ hs1 (by omega)).mono ?_
  rintro e w2 ⟨x, rfl, hx0, hx1, hs2, hg2⟩
  have Hb2 : Hid (Below w.heap.size w w2) := below_src Hb1.out hg2 (Nat.le_refl _)
  have hx6 : x < 6 := by omega
  clear hs1 hg2 hx1 Hb1
  go_wp2_with fail
  refine (srcOne w.heap.size w.heap.size 20 _ hs2 (by omega)).mono ?_
  rintro e w3 ⟨r, rfl, hs3, hg3⟩
  have Hb3 : Hid (Below w.heap.size w w3) := below_src Hb2.out hg3 (Nat.le_refl _)
  clear hs2 hg3 Hb2
  cases r with
  | false =>
    clear hx0 hx6
    go_wp2_with fail
    refine (srcNum w.heap.size w.heap.size _ hs3).mono ?_
    rintro e w5 ⟨a, rfl, ha0, ha1, hs5, hg5⟩
    have Hb5 : Hid (Below w.heap.size w w5) := below_src Hb3.out hg5 (Nat.le_refl _)
    clear hs3 hg5 Hb3
    go_wp2_with fail
    go_ret2
    exact ⟨_, a, rfl, ⟨ha0, ha1⟩, Hb5.out⟩
  | true =>
    clear hx0 hx6
    go_wp2_with fail
    refine (srcN w.heap.size w.heap.size 45 _ hs3 (by omega)).mono ?_
    rintro e w4 ⟨y, rfl, hy0, hy1, hs4, hg4⟩
    have Hb4 : Hid (Below w.heap.size w w4) := below_src Hb3.out hg4 (Nat.le_refl _)
    have hy45 : y < 45 := by omega
    clear hs3 hg4 Hb3 hy1
    go_wp2_with fail
    refine (srcNum w.heap.size w.heap.size _ hs4).mono ?_
    rintro e w5 ⟨a, rfl, ha0, ha1, hs5, hg5⟩
    have Hb5 : Hid (Below w.heap.size w w5) := below_src Hb4.out hg5 (Nat.le_refl _)
    clear hs4 hg5 Hb4
    go_wp2_with fail
    go_ret2
    exact ⟨_, a, rfl, ⟨ha0, ha1⟩, Hb5.out⟩
end Go.Proofs.Ytpcnnagcpckdlaa
