/- The law on ops of one number: what is made narrow fits, is itself if it did, and stays so; turned and one more it is its opposite. -/
import Derived.Test.YtpcnnagcpckdlaaConvM
import Derived.Test.YtpcnnagcpckdlaaDraw2
namespace Go.Proofs.Ytpcnnagcpckdlaa
open Go.RowKit

/-- the bits' table, told by its three cells -/
def Bits3 (w : World) (b : Nat) : Prop := (w.cell? ⟨b, 0, none⟩ = some (.int .i64 8) ∧ w.cell? ⟨b, 1, none⟩ = some (.int .i64 16) ∧ w.cell? ⟨b, 2, none⟩ = some (.int .i64 32)) ∧ b < w.heap.size

theorem Bits3.below {w w1 : World} {b : Nat} (h : Bits3 w b) (hb : Below w.heap.size w w1) : Bits3 w1 b := by
  obtain ⟨⟨c0, c1, c2⟩, hlt⟩ := h
  refine ⟨⟨?_, ?_, ?_⟩, Nat.lt_of_lt_of_le hlt hb.size⟩
  · rw [hb.cell (by exact hlt)]; exact c0
  · rw [hb.cell (by exact hlt)]; exact c1
  · rw [hb.cell (by exact hlt)]; exact c2

set_option maxRecDepth 100000 in
set_option maxHeartbeats 800000 in
theorem lawConv (v : Value) (zs : List Int) (w : World) (hr : Row8 w.heap.size w v zs) (hz : (zs.length : Int) ≤ 9223372036854775807) :
    Calls Try.prog 4 #[v] w fun e w' => e = .returned (.bool true) ∧ Below w.heap.size w w' := by
  have Hr : Hid (Row8 w.heap.size w v zs) := hr
  obtain ⟨ad, cap, rfl⟩ := hr.len
  clear hr
  by_cases hbig : (1048576 : Int) < (zs.length : Int)
  · go_enter Try.func4, Try.ntmps4
    go_wp2
    go_ret
    exact ⟨rfl, Below.refl _ _⟩
  · have hf0 := fieldN
    have he := eqV
    go_enter Try.func4, Try.ntmps4
    go_wp2_with fail
    refine (drawUnary _ zs _ Hr.out (by omega)).mono ?_
    rintro e w1 ⟨op, a, rfl, ⟨ha0, ha1⟩, hw1⟩
    have Hw1 : Hid (Below w.heap.size w w1) := hw1
    clear hw1
    go_wp2_with fail
    refine (implUnary op a _).mono ?_
    rintro e w2 ⟨rfl, hw2⟩
    have Hw2 : Hid (Below w.heap.size w w2) := Hw1.out.trans (hw2.mono Hw1.out.size)
    clear hw2 Hw1
    go_wp2_with fail
    refine (specUnary op a _).mono ?_
    rintro e w3 ⟨rfl, hw3⟩
    have Hw3 : Hid (Below w.heap.size w w3) := Hw2.out.trans (hw3.mono Hw2.out.size)
    clear hw3 Hw2
    go_wp2_with fail
    go_loopw [6] (fun i wr => ∃ k : Nat, k ≤ 3 ∧ i = .int .i64 k ∧ Below w.heap.size w wr ∧ Bits3 wr w3.heap.size) (fun i _ => 3 - (intOf i).toNat)
    case atStart =>
      refine ⟨0, by omega, rfl, Hw3.out.alloc Hw3.out.size _, ⟨?_, ?_, ?_⟩, ?_⟩ <;> simp
    case round =>
      obtain ⟨k, hk, rfl, hbel, hbits⟩ := hrel
      have Hbel : Hid (Below w.heap.size w wr) := hbel
      have Hbits : Hid (Bits3 wr w3.heap.size) := hbits
      clear hbel hbits Hw3
      have hcase : k = 0 ∨ k = 1 ∨ k = 2 ∨ k = 3 := by omega
      rcases hcase with rfl | rfl | rfl | rfl
      · obtain ⟨n, n0, n1, n2, n3, n4, n5, n6⟩ := facts8 a ha0 ha1
        go_wp2_with fail
        refine (implUnary 26 a _).mono ?_
        rintro e w4 ⟨rfl, hw4⟩
        have Hw4 : Hid (Below w.heap.size w w4) := Hbel.out.trans (hw4.mono Hbel.out.size)
        have hb4 := Hbits.out.below hw4
        have Hb4 : Hid (Bits3 w4 w3.heap.size) := hb4
        obtain ⟨⟨c0, c1, c2⟩, hlt⟩ := hb4
        clear hw4
        go_wp2_with fail
        refine (implFits n 8 _ n5 n6).mono ?_
        rintro e w5 ⟨rfl, h⟩
        subst w5
        go_wp2_with fail
        refine (implFits a 8 _ ha0 ha1).mono ?_
        rintro e w5 ⟨rfl, h⟩
        subst w5
        go_wp2_with fail
        refine (implUnary 26 n _).mono ?_
        rintro e w6 ⟨rfl, hw6⟩
        have Hw6 : Hid (Below w.heap.size w w6) := Hw4.out.trans (hw6.mono Hw4.out.size)
        clear c0 c1 c2 hlt
        have Hb6 : Hid (Bits3 w6 w3.heap.size) := Hb4.out.below hw6
        obtain ⟨⟨c0, c1, c2⟩, hlt⟩ := Hb4.out.below hw6
        clear hw6
        go_wp2_with fail
        go_roundw
        case rel => exact ⟨1, by omega, rfl, Hw6.out, Hb6.out⟩
        case measure => simp [intOf]
      · obtain ⟨n, n0, n1, n2, n3, n4, n5, n6⟩ := facts16 a ha0 ha1
        go_wp2_with fail
        refine (implUnary 27 a _).mono ?_
        rintro e w4 ⟨rfl, hw4⟩
        have Hw4 : Hid (Below w.heap.size w w4) := Hbel.out.trans (hw4.mono Hbel.out.size)
        have hb4 := Hbits.out.below hw4
        have Hb4 : Hid (Bits3 w4 w3.heap.size) := hb4
        obtain ⟨⟨c0, c1, c2⟩, hlt⟩ := hb4
        clear hw4
        go_wp2_with fail
        refine (implFits n 16 _ n5 n6).mono ?_
        rintro e w5 ⟨rfl, h⟩
        subst w5
        go_wp2_with fail
        refine (implFits a 16 _ ha0 ha1).mono ?_
        rintro e w5 ⟨rfl, h⟩
        subst w5
        go_wp2_with fail
        refine (implUnary 27 n _).mono ?_
        rintro e w6 ⟨rfl, hw6⟩
        have Hw6 : Hid (Below w.heap.size w w6) := Hw4.out.trans (hw6.mono Hw4.out.size)
        clear c0 c1 c2 hlt
        have Hb6 : Hid (Bits3 w6 w3.heap.size) := Hb4.out.below hw6
        obtain ⟨⟨c0, c1, c2⟩, hlt⟩ := Hb4.out.below hw6
        clear hw6
        go_wp2_with fail
        go_roundw
        case rel => exact ⟨2, by omega, rfl, Hw6.out, Hb6.out⟩
        case measure => simp [intOf]
      · obtain ⟨n, n0, n1, n2, n3, n4, n5, n6⟩ := facts32 a ha0 ha1
        go_wp2_with fail
        refine (implUnary 28 a _).mono ?_
        rintro e w4 ⟨rfl, hw4⟩
        have Hw4 : Hid (Below w.heap.size w w4) := Hbel.out.trans (hw4.mono Hbel.out.size)
        have hb4 := Hbits.out.below hw4
        have Hb4 : Hid (Bits3 w4 w3.heap.size) := hb4
        obtain ⟨⟨c0, c1, c2⟩, hlt⟩ := hb4
        clear hw4
        go_wp2_with fail
        refine (implFits n 32 _ n5 n6).mono ?_
        rintro e w5 ⟨rfl, h⟩
        subst w5
        go_wp2_with fail
        refine (implFits a 32 _ ha0 ha1).mono ?_
        rintro e w5 ⟨rfl, h⟩
        subst w5
        go_wp2_with fail
        refine (implUnary 28 n _).mono ?_
        rintro e w6 ⟨rfl, hw6⟩
        have Hw6 : Hid (Below w.heap.size w w6) := Hw4.out.trans (hw6.mono Hw4.out.size)
        clear c0 c1 c2 hlt
        have Hb6 : Hid (Bits3 w6 w3.heap.size) := Hb4.out.below hw6
        obtain ⟨⟨c0, c1, c2⟩, hlt⟩ := Hb4.out.below hw6
        clear hw6
        go_wp2_with fail
        go_roundw
        case rel => exact ⟨3, by omega, rfl, Hw6.out, Hb6.out⟩
        case measure => simp [intOf]
      · obtain ⟨n, n0, n1, n2, n3⟩ := factsW a
        obtain ⟨x, y, m0, m1, m2⟩ := factsNot a
        go_wp2_with fail
        refine (implUnary 29 a _).mono ?_
        rintro e w4 ⟨rfl, hw4⟩
        have Hw4 : Hid (Below w.heap.size w w4) := Hbel.out.trans (hw4.mono Hbel.out.size)
        clear hw4 Hbits
        go_wp2_with fail
        refine (implUnary 25 a _).mono ?_
        rintro e w5 ⟨rfl, hw5⟩
        have Hw5 : Hid (Below w.heap.size w w5) := Hw4.out.trans (hw5.mono Hw4.out.size)
        clear hw5
        go_wp2_with fail
        refine (implUnary 24 a _).mono ?_
        rintro e w6 ⟨rfl, hw6⟩
        have Hw6 : Hid (Below w.heap.size w w6) := Hw5.out.trans (hw6.mono Hw5.out.size)
        clear hw6
        go_wp2_with fail
        go_ret
        exact ⟨rfl, Hw6.out⟩
end Go.Proofs.Ytpcnnagcpckdlaa
