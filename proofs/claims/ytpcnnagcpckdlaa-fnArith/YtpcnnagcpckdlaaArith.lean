/- The law on ops of two numbers: what was taken off is put back, quotients and what is left, shifts, and less, at most and the same. -/
import Derived.Test.YtpcnnagcpckdlaaArithM
import Derived.Test.YtpcnnagcpckdlaaBinI
import Derived.Test.YtpcnnagcpckdlaaBinS
import Derived.Test.YtpcnnagcpckdlaaDraw2
import Derived.Laws.StructEq
import Derived.Deep.RegionWith
namespace Go.Proofs.Ytpcnnagcpckdlaa
open Go.RowKit

theorem eqV (a b c d : Int) (w : World) : (Op.equalIn 10000 26 (.agg #[.int .i64 a, .int .i64 b]) (.agg #[.int .i64 c, .int .i64 d])).run Try.prog w = .ok (a == c && b == d) w := by
  have u3 := Try.underlying2
  have a3 := Try.isAgg2
  have z3 := Try.sizeOf2
  have hS : Try.prog.underlying 26 = some (.struct (Try.prog.fieldsOf 26)) := by kernel_rfl
  have hp : Try.prog.stoodInHeld 26 = false := by kernel_rfl
  rw [show (10000 : Nat) = 9999 + 1 from rfl, run_equalIn_agg w 9999 26 _ _ hS hp]
  simp only [Program.fieldsOf, Try.underlying26]
  go_simp
  by_cases h1 : a = c <;> by_cases h2 : b = d <;> simp [h1, h2]

theorem fieldN (n t : Int) (w : World) : (Instr.field 26 (.agg #[.int .i64 n, .int .i64 t]) 0).run Try.prog w = .ok (.int .i64 n) w := by kernel_rfl

theorem after_call {w2 w3 : World} {x y : Value} {T : TypeId} (hb : Below (w2.alloc (.cells #[x, y] T)).drew.heap.size (w2.alloc (.cells #[x, y] T)).drew w3) :
    (w3.cell? ⟨w2.heap.size, 0, none⟩ = some x ∧ w3.cell? ⟨w2.heap.size, 1, none⟩ = some y) ∧ Below w2.heap.size w2 w3 := by
  refine ⟨⟨?_, ?_⟩, ?_⟩
  · rw [hb.cell (by simp)]; simp
  · rw [hb.cell (by simp)]; simp
  · exact ((Below.refl _ _).alloc (Nat.le_refl _) _).drew.trans (hb.mono (by simp))

theorem after_call0 {w2 w3 : World} {x y : Value} {T : TypeId} (hb : Below (w2.alloc (.cells #[x, y] T)).heap.size (w2.alloc (.cells #[x, y] T)) w3) :
    (w3.cell? ⟨w2.heap.size, 0, none⟩ = some x ∧ w3.cell? ⟨w2.heap.size, 1, none⟩ = some y) ∧ Below w2.heap.size w2 w3 ∧ w2.heap.size < w3.heap.size := by
  refine ⟨⟨?_, ?_⟩, ?_, ?_⟩
  · rw [hb.cell (by simp)]; simp
  · rw [hb.cell (by simp)]; simp
  · exact ((Below.refl _ _).alloc (Nat.le_refl _) _).trans (hb.mono (by simp))
  · have := hb.size; simp at this; omega

set_option maxRecDepth 100000 in
set_option maxHeartbeats 800000 in
theorem lawArith (v : Value) (zs : List Int) (w : World) (hr : Row8 w.heap.size w v zs) (hz : (zs.length : Int) ≤ 9223372036854775807) :
    Calls Try.prog 3 #[v] w fun e w' => e = .returned (.bool true) ∧ Below w.heap.size w w' := by
  have Hr : Hid (Row8 w.heap.size w v zs) := hr
  obtain ⟨ad, cap, rfl⟩ := hr.len
  clear hr
  by_cases hbig : (1048576 : Int) < (zs.length : Int)
  · go_enter Try.func3, Try.ntmps3
    go_wp2
    go_ret
    exact ⟨rfl, Below.refl _ _⟩
  · go_enter Try.func3, Try.ntmps3
    go_wp2_with fail
    refine (drawBinary _ zs _ Hr.out (by omega)).mono ?_
    rintro e w1 ⟨op, a, b, rfl, ⟨ha0, ha1⟩, ⟨hb0, hb1⟩, hw1⟩
    have Hw1 : Hid (Below w.heap.size w w1) := hw1
    clear hw1
    go_wp2_with fail
    refine (implBinary op a b _).mono ?_
    rintro e w2 ⟨rfl, hw2⟩
    have Hw2 : Hid (Below w.heap.size w w2) := Hw1.out.trans (hw2.mono Hw1.out.size)
    clear hw2 Hw1
    go_wp2_with fail
    go_cut [32] (fun x wc => x = .bool false ∧ Below w.heap.size w wc)
    case first =>
      have he := eqV
      go_region_with (go_at_call 10; refine (specBinary op a b _).mono ?_; rintro e w3 ⟨rfl, hb3⟩; obtain ⟨⟨c0, c1⟩, hw3⟩ := after_call hb3; clear hb3)
      all_goals
        go_wp2_with fail
        go_meet
        exact ⟨by simp, Hw2.out.trans (hw3.mono Hw2.out.size)⟩
    case rest =>
      obtain ⟨rfl, hwc⟩ := hcut
      have Hw3 : Hid (Below w.heap.size w wc) := hwc
      clear hwc Hw2
      have hf0 := fieldN
      have e1 := ar_sub (b := b) ha0 ha1
      have e2 := ar_xor (b := b) ha0 ha1
      go_wp2_with fail
      refine (implBinary 11 a b _).mono ?_
      rintro e w4 ⟨rfl, hw4⟩
      have Hw4 : Hid (Below w.heap.size w w4) := Hw3.out.trans (hw4.mono Hw3.out.size)
      clear hw4 Hw3
      go_wp2_with fail
      refine (implBinary 10 (binN 11 a b) b _).mono ?_
      rintro e w5 ⟨rfl, hw5⟩
      have Hw5 : Hid (Below w.heap.size w w5) := Hw4.out.trans (hw5.mono Hw4.out.size)
      clear hw5 Hw4
      go_wp2_with fail
      refine (implBinary 17 a b _).mono ?_
      rintro e w6 ⟨rfl, hw6⟩
      have Hw6 : Hid (Below w.heap.size w w6) := Hw5.out.trans (hw6.mono Hw5.out.size)
      clear hw6 Hw5
      go_wp2_with fail
      refine (implBinary 17 (binN 17 a b) b _).mono ?_
      rintro e w7 ⟨rfl, hw7⟩
      have Hw7 : Hid (Below w.heap.size w w7) := Hw6.out.trans (hw7.mono Hw6.out.size)
      clear hw7 Hw6
      go_wp2_with fail
      refine (implBinary 13 a b _).mono ?_
      rintro e w8 ⟨rfl, hw8⟩
      have Hw8 : Hid (Below w.heap.size w w8) := Hw7.out.trans (hw8.mono Hw7.out.size)
      clear hw8 Hw7
      go_wp2_with fail
      refine (implBinary 14 a b _).mono ?_
      rintro e w9 ⟨rfl, hw9⟩
      obtain ⟨⟨c0, c1⟩, hb9, hz9⟩ := after_call0 hw9
      have Hw9 : Hid (Below w.heap.size w w9) := Hw8.out.trans (hb9.mono Hw8.out.size)
      clear hw9 hb9 Hw8
      have he := eqV
      clear e1 e2
      by_cases hb : b = 0
      · subst hb
        have q0 := binN_13z a
        have q1 := binN_14z a
        have q2 : binT 13 0 = 11 := rfl
        have q3 : binT 14 0 = 11 := rfl
        go_wp2_with fail
        go_ret
        exact ⟨rfl, Hw9.out.alloc (by have := Hw9.out.size; omega) _⟩
      · have e3 := ar_div ha0 ha1 hb
        have t13 : binT 13 b = 0 := binT_pos hb
        have t14 : binT 14 b = 0 := binT_pos hb
        have Hrem : Hid (binN 14 a b = 0 ∨ (0 < binN 14 a b ∧ 0 < a) ∨ (binN 14 a b < 0 ∧ ¬ 0 < a)) := ar_rem hb
        go_upto_region 13 with fail
        go_cut [100] (fun x wd => x = .bool false ∧ Below w.heap.size w wd)
        case first =>
          rcases Hrem.out with h | ⟨h, h'⟩ | ⟨h, h'⟩
          · have e4 : wrap64 (wrap64 (binN 13 a b * b)) = a := by rw [h] at e3; simpa using e3
            go_wp2_with fail
            go_meet
            exact ⟨by simp, Hw9.out.alloc (by have := Hw9.out.size; omega) _⟩
          · go_wp2_with fail
            go_meet
            exact ⟨by simp; try omega, Hw9.out.alloc (by have := Hw9.out.size; omega) _⟩
          · go_wp2_with fail
            go_meet
            exact ⟨by simp; try omega, Hw9.out.alloc (by have := Hw9.out.size; omega) _⟩
        case rest =>
          clear Hw9 e3 t13 t14 Hrem c0 c1 he hz9
          obtain ⟨rfl, hwd⟩ := hcut
          have Hw10 : Hid (Below w.heap.size w wc) := hwd
          clear hwd
          have Hsh : Hid (fitsB a (64 - b % 64) = true → binN 19 (binN 18 a b) b = a) := ar_shift
          have h63 := and63 b
          have hm0 : 0 ≤ b % 64 := by omega
          have hm1 : b % 64 ≤ 63 := by omega
          go_wp2_with fail
          refine (implBinary 18 a b _).mono ?_
          rintro e w11 ⟨rfl, hw11⟩
          have Hw11 : Hid (Below w.heap.size w w11) := Hw10.out.trans (hw11.mono Hw10.out.size)
          clear hw11 Hw10
          go_upto_region 17 with fail
          go_cut [118] (fun x wd => x = .bool false ∧ Below w.heap.size w wd)
          case first =>
            go_wp2_with fail
            refine (implFits a (64 - b % 64) _ ha0 ha1).mono ?_
            rintro e w12 ⟨rfl, h⟩
            subst w12
            by_cases hfit : fitsB a (64 - b % 64) = true
            · have hsh := Hsh.out hfit
              go_wp2_with fail
              refine (implBinary 19 (binN 18 a b) b _).mono ?_
              rintro e w13 ⟨rfl, hw13⟩
              have Hw13 : Hid (Below w.heap.size w w13) := Hw11.out.trans (hw13.mono Hw11.out.size)
              clear hw13 Hw11
              go_wp2_with fail
              go_meet
              exact ⟨by simp, Hw13.out⟩
            · have hfit2 : fitsB a (64 - b % 64) = false := by simpa using hfit
              go_wp2_with fail
              go_meet
              exact ⟨by simp, Hw11.out⟩
          case rest =>
            obtain ⟨rfl, hwd⟩ := hcut
            have Hw12 : Hid (Below w.heap.size w wc) := hwd
            clear hwd Hw11 Hsh h63 hm0 hm1
            have Hle := ar_less a b
            go_wp2_with fail
            refine (implBinary 21 a b _).mono ?_
            rintro e w14 ⟨rfl, hw14⟩
            have Hw14 : Hid (Below w.heap.size w w14) := Hw12.out.trans (hw14.mono Hw12.out.size)
            clear hw14 Hw12
            go_wp2_with fail
            refine (implBinary 22 a b _).mono ?_
            rintro e w15 ⟨rfl, hw15⟩
            have Hw15 : Hid (Below w.heap.size w w15) := Hw14.out.trans (hw15.mono Hw14.out.size)
            clear hw15 Hw14
            go_wp2_with fail
            refine (implBinary 23 a b _).mono ?_
            rintro e w16 ⟨rfl, hw16⟩
            have Hw16 : Hid (Below w.heap.size w w16) := Hw15.out.trans (hw16.mono Hw15.out.size)
            clear hw16 Hw15
            rcases Hle with ⟨h, l1, l2, l3, l4⟩ | ⟨h, l1, l2, l3, l4⟩ | ⟨h, l1, l2, l3, l4⟩
            all_goals
              clear h
              go_wp2_with fail
              refine (implBinary 21 b a _).mono ?_
              rintro e w17 ⟨rfl, hw17⟩
              have Hw17 : Hid (Below w.heap.size w w17) := Hw16.out.trans (hw17.mono Hw16.out.size)
              clear hw17 Hw16
              go_wp2_with fail
              go_ret
              exact ⟨rfl, Hw17.out⟩
end Go.Proofs.Ytpcnnagcpckdlaa
