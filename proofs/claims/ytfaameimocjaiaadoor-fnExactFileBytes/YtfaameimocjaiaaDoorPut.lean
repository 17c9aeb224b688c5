/- A number's bytes: what impl.PutNum and spec.PutNum answer is the zig-zag's varint. -/
import Derived.Test.YtfaameimocjaiaaDoorRows
import Derived.WalkKit
import Derived.WalkLawsBesides
import Derived.WalkSpells
import Derived.Lib.Zigzag
import Derived.Lib.VarintMem
import Derived.Laws.IdiomStrings
namespace Go.Proofs.YtfaameimocjaiaaDoor
open Go.RowKit

theorem ret_u64 {a b : Int} (h : a = b) : Ending.returned (.int .u64 a) = .returned (.int .u64 b) := by rw [h]

theorem zz_pos {n : Int} (h : 0 ≤ n) : n * 2 = ((Lib.zigzag n : Nat) : Int) := (Lib.zigzag_nonneg h).symm
theorem zz_pos' {n : Int} (h : 0 ≤ n) : 2 * n = ((Lib.zigzag n : Nat) : Int) := by rw [Lib.zigzag_nonneg h]; omega
theorem zz_neg' {n : Int} (h : n < 0) : 2 * -(n + 1) + 1 = ((Lib.zigzag n : Nat) : Int) := by
  unfold Lib.zigzag
  rw [if_neg (by omega)]
  omega

set_option maxHeartbeats 400000 in
theorem implFold (n : Int) (w : World) (h0 : -9223372036854775808 ≤ n) (h1 : n ≤ 9223372036854775807) :
    Calls Tryd.prog 80 #[.int .i64 n] w fun e w' => e = .returned (.int .u64 ((Lib.zigzag n : Nat) : Int)) ∧ w' = w := by
  by_cases hn : n < 0
  · have H : Hid (_ = _) := Lib.zigzag_neg h0 hn
    go_enter Tryd.func80, Tryd.ntmps80
    go_wp2
    go_ret
    exact ⟨ret_u64 H.out, rfl⟩
  · have H : Hid (_ = _) := zz_pos (n := n) (by omega)
    go_enter Tryd.func80, Tryd.ntmps80
    go_wp2
    go_ret
    exact ⟨ret_u64 H.out, rfl⟩

set_option maxHeartbeats 400000 in
theorem specFold (n : Int) (w : World) (h0 : -9223372036854775808 ≤ n) (h1 : n ≤ 9223372036854775807) :
    Calls Tryd.prog 58 #[.int .i64 n] w fun e w' => e = .returned (.int .u64 ((Lib.zigzag n : Nat) : Int)) ∧ w' = w := by
  by_cases hn : n < 0
  · have H : Hid (_ = _) := zz_neg' hn
    go_enter Tryd.func58, Tryd.ntmps58
    go_wp2
    go_ret
    exact ⟨ret_u64 H.out, rfl⟩
  · have H : Hid (_ = _) := zz_pos' (n := n) (by omega)
    go_enter Tryd.func58, Tryd.ntmps58
    go_wp2
    go_ret
    exact ⟨ret_u64 H.out, rfl⟩

theorem Tryd.elemBs : Tryd.prog.elem 55 = 5 := by kernel_rfl
theorem Tryd.elemTen : Tryd.prog.elem 116 = 5 := by kernel_rfl
theorem Tryd.arrayLenTen : Tryd.prog.arrayLen 116 = 10 := by kernel_rfl
theorem Tryd.sizeU8 (w : World) : (Go.sizeOf 5).run Tryd.prog w = .ok 1 w := by kernel_rfl

theorem u64_and127 (x : Int) (h0 : 0 ≤ x) (h1 : x < 18446744073709551616) : bits .and .u64 x 127 = x % 128 := by
  have h := bits_mask .u64 64 (by decide) wraps_u64 7 (by decide) x h0 (by omega)
  simpa using h

/-- 'text[:k+1]' of the array of ten -/
theorem slice10 (b k : Nat) (hk : k < 10) (W : World) :
    (Instr.sliceAt 116 (.pointer (some ⟨b, 0, none⟩)) none (some (.int .i64 ((k : Int) + 1))) none).run Tryd.prog W = .ok (.slice (some ⟨b, 0, none⟩) (k + 1) 10) W := by
  rw [run_sliceAt_array_h W 116 ⟨b, 0, none⟩ (by kernel_rfl) .i64 ((k : Int) + 1) (by omega) (by rw [Tryd.arrayLenTen]; omega), Tryd.elemTen, Tryd.sizeU8, Tryd.arrayLenTen]
  have e : ((k : Int) + 1).toNat = k + 1 := by omega
  simp [Result.andThen, slicedAt, e, Addr.add]

/-- the ten cells, one more of them laid, as a text -/
theorem text10 (w : World) (C : Array Value) (pre : List UInt8) (x : Int) (hx0 : 0 ≤ x) (hx1 : x < 256) (hC : C.size = 10) (hp : pre.length < 10)
    (hc : ∀ j (h : j < pre.length), C[j]? = some (.int .u8 (pre[j].toNat : Int))) :
    (convert 55 9 (.slice (some ⟨w.heap.size, 0, none⟩) (pre.length + 1) 10)).run Tryd.prog (w.alloc (.cells (C.setIfInBounds pre.length (.int .u8 x)) 116)) =
      .ok (.string ⟨(pre ++ [x.toNat.toUInt8]).toArray⟩) (w.alloc (.cells (C.setIfInBounds pre.length (.int .u8 x)) 116)) := by
  have h := run_convert_bytes_back (P := Tryd.prog) (w.alloc (.cells (C.setIfInBounds pre.length (.int .u8 x)) 116)) 55 9 5 ⟨w.heap.size, 0, none⟩ 10 (pre ++ [x.toNat.toUInt8]) Tryd.underlying55 Tryd.underlying5 Tryd.underlying9 (by
    intro j hj
    have ha : (⟨w.heap.size, 0, none⟩ : Addr).add j = ⟨w.heap.size, j, none⟩ := by simp [Addr.add]; exact fun h => h.symm
    rw [ha, World.cell?_alloc_mark, Array.getElem?_setIfInBounds]
    simp only [List.length_append, List.length_cons, List.length_nil] at hj
    by_cases hjp : j < pre.length
    · rw [if_neg (by omega), hc j hjp, List.getElem_append_left hjp]
    · obtain rfl : j = pre.length := by omega
      rw [if_pos rfl, if_pos (by omega)]
      have e : (x.toNat.toUInt8.toNat : Int) = x := by rw [Lib.toUInt8_toNat (by omega)]; omega
      have e2 : (pre ++ [x.toNat.toUInt8])[pre.length]'(by simp) = x.toNat.toUInt8 := by simp
      rw [e2, e])
  simpa using h

/-- one step of the varint: what stands, and what is left -/
theorem uv_more {pre : List UInt8} {u v f : Nat} (he : Lib.uvarint u = pre ++ Lib.uvarint v) (hv : 128 ≤ v) (hf : v < 128 ^ (f + 1)) :
    ∃ g, f = g + 1 ∧ v / 128 < 128 ^ (g + 1) ∧ Lib.uvarint u = (pre ++ [(v % 128 + 128).toUInt8]) ++ Lib.uvarint (v / 128) := by
  cases f with
  | zero => simp at hf; omega
  | succ g => exact ⟨g, rfl, Nat.div_lt_of_lt_mul (by rw [Nat.mul_comm, ← Nat.pow_succ]; exact hf), by rw [he, Lib.uvarint_big hv]; simp⟩

set_option maxRecDepth 100000 in
set_option maxHeartbeats 400000 in
theorem implPut' (n : Int) (u : Nat) (hu : Hid (Lib.zigzag n = u)) (w : World) (h0 : -9223372036854775808 ≤ n) (h1 : n ≤ 9223372036854775807) (hz : u < 18446744073709551616) :
    Calls Tryd.prog 61 #[.int .i64 n] w fun e w' => e = .returned (.string ⟨(Lib.uvarint u).toArray⟩) ∧ Below w.heap.size w w' := by
  go_enter Tryd.func61, Tryd.ntmps61
  go_wp2_with fail
  refine (implFold n _ h0 h1).mono ?_
  rintro e w1 ⟨rfl, rfl⟩
  rw [hu.out]
  go_wp2_with fail
  go_loopw [4, 5] (fun t i wr => ∃ (pre : List UInt8) (x : Int) (f : Nat) (C : Array Value), pre.length + f = 9 ∧ i = .int .i64 pre.length ∧ t = .int .u64 x ∧ 0 ≤ x ∧ x < 18446744073709551616 ∧ x.toNat < 128 ^ (f + 1) ∧ Hid (Lib.uvarint u = pre ++ Lib.uvarint x.toNat) ∧
      wr = w.alloc (.cells C 116) ∧ C.size = 10 ∧ (∀ j (h : j < pre.length), C[j]? = some (.int .u8 (pre[j].toNat : Int)))) (fun t _ _ => (intOf t).toNat)
  case atStart => exact ⟨[], u, 9, _, rfl, rfl, rfl, by omega, by omega, Nat.lt_of_lt_of_le hz (by decide), rfl, rfl, rfl, fun j h => by cases h⟩
  case round =>
    obtain ⟨pre, x, f, C, hpf, rfl, rfl, hx0, hx1, hvf, hpre, rfl, hC, hcells⟩ := hrel
    have hk : pre.length < C.size := by omega
    obtain ⟨o, ho⟩ : ∃ o, C[pre.length]? = some o := ⟨_, Array.getElem?_eq_getElem hk⟩
    have Hc : Hid (∀ j (h : j < pre.length), C[j]? = some (.int .u8 (pre[j].toNat : Int))) := hcells
    have Hf : Hid (pre.length + f = 9 ∧ x.toNat < 128 ^ (f + 1) ∧ C.size = 10) := ⟨hpf, hvf, hC⟩
    have hp10 : pre.length < 10 := by omega
    clear hcells hpf hvf hC hk hz
    by_cases hlt : 128 ≤ x
    · have Hb : Hid (_ = _) := u64_and127 x hx0 hx1
      go_wp2
      go_roundw
      case rel =>
        obtain ⟨h1, h2, h3⟩ := Hf.out
        obtain ⟨g, rfl, hg, he⟩ := uv_more hpre.out (show 128 ≤ x.toNat by omega) h2
        have e1 : (x / 128).toNat = x.toNat / 128 := by omega
        refine ⟨pre ++ [(x.toNat % 128 + 128).toUInt8], x / 128, g, _, by simp; omega, by simp, rfl, by omega, by omega, by rw [e1]; exact hg, by rw [e1]; exact he, rfl, by simpa using h3, ?_⟩
        intro j hj
        rw [Array.getElem?_setIfInBounds]
        simp only [List.length_append, List.length_cons, List.length_nil] at hj
        by_cases hjp : j < pre.length
        · rw [if_neg (by omega), Hc.out j hjp, List.getElem_append_left hjp]
        · obtain rfl : j = pre.length := by omega
          rw [if_pos rfl, if_pos (by omega), Hb.out]
          have e : (((x.toNat % 128 + 128).toUInt8).toNat : Int) = (x % 128 + 128) % 256 := by rw [Lib.toUInt8_toNat (by omega)]; omega
          have e2 : (pre ++ [(x.toNat % 128 + 128).toUInt8])[pre.length]'(by simp) = (x.toNat % 128 + 128).toUInt8 := by simp
          rw [e2, e]
      case measure => simp [intOf]; omega
    · have hsl := slice10 w.heap.size pre.length hp10
      have hcv := text10 w C pre x hx0 (by omega) Hf.out.2.2 hp10 Hc.out
      go_wp2
      go_ret
      refine ⟨?_, (Below.refl _ _).alloc (Nat.le_refl _) _⟩
      have he := hpre.out
      rw [Lib.uvarint_small (show x.toNat < 128 by omega)] at he
      simp [he]

theorem implPut (n : Int) (w : World) (h0 : -9223372036854775808 ≤ n) (h1 : n ≤ 9223372036854775807) :
    Calls Tryd.prog 61 #[.int .i64 n] w fun e w' => e = .returned (.string ⟨(Lib.uvarint (Lib.zigzag n)).toArray⟩) ∧ Below w.heap.size w w' :=
  implPut' n _ (rfl : Lib.zigzag n = Lib.zigzag n) w h0 h1 (Lib.zigzag_lt h0 h1)
end Go.Proofs.YtfaameimocjaiaaDoor
