/- The source of draws is made. -/
import Derived.Test.YtljhoplcfoiiiaaDoorSrc
import Derived.Laws.IdiomStrings
namespace Go.Proofs.YtljhoplcfoiiiaaDoor
open Go.RowKit

theorem wrap_range (a : Int) : 0 ≤ IntKind.u64.wrap a ∧ IntKind.u64.wrap a < 18446744073709551616 := by
  rw [IntKind.wrap_u64]
  omega

theorem src4_size {w0 w : World} {g : Nat} {v : Value} {a m s : Int} (h : Src4 w0 w g v a m s) (s' : Int) : Src4 w0 (w.setCell ⟨g, 3, none⟩ (.int .i64 s')) g v a m s' := by
  obtain ⟨⟨c0, c1, c2, c3⟩, ⟨f1, f2, f3⟩, h5⟩ := h
  refine ⟨⟨?_, ?_, ?_, ?_⟩, ⟨?_, ?_, ?_⟩, grownBy_setCell8 h5 3 _⟩
  · exact (World.cell?_setCell_other _ _ _ _ (by simp)).trans c0
  · exact (World.cell?_setCell_other _ _ _ _ (by simp)).trans c1
  · exact (World.cell?_setCell_other _ _ _ _ (by simp)).trans c2
  · exact World.cell?_setCell_same _ _ _ c3
  · exact (World.frozen?_setCell _ _ _ _).trans f1
  · exact (World.frozen?_setCell _ _ _ _).trans f2
  · exact (World.frozen?_setCell _ _ _ _).trans f3

theorem srcEnd {w w0 w' : World} {v : Value} {zs : List Int} {m s : Int} (hr : Row8 w.heap.size w v zs) (hz : zs.length ≤ 1048576) (hb : Below w.heap.size w w0) (hsz : w.heap.size < w0.heap.size)
    (h : Src4 w0 w' w.heap.size v 0 m s) (hm0 : 0 ≤ m) (hm1 : m < 18446744073709551616) (hs0 : 0 ≤ s) (hs1 : s ≤ 12) : Src w.heap.size w' w.heap.size ∧ Below w.heap.size w w' :=
  ⟨src_of4 (Nat.le_refl _) hsz (hr.below hb) hz h (by omega) (by omega) hm0 hm1 hs0 hs1, hb.trans ((Below.refl _ _).grown h.2.2 (by omega) (fun j hj => by simp at hj; omega))⟩

set_option maxRecDepth 100000 in
set_option maxHeartbeats 1600000 in
theorem srcNew (v : Value) (zs : List Int) (w : World) (hr : Row8 w.heap.size w v zs) (hz : zs.length ≤ 1048576) :
    Calls Tryd.prog 37 #[v] w fun e w' => e = .returned (.pointer (some ⟨w.heap.size, 0, none⟩)) ∧ Src w.heap.size w' w.heap.size ∧ Below w.heap.size w w' := by
  have Hr : Hid (Row8 w.heap.size w v zs) := hr
  obtain ⟨ad, cap, rfl⟩ := hr.len
  clear hr
  go_enter Tryd.func37, Tryd.ntmps37
  go_wp2
  generalize hw0 : w.alloc (.cells #[.slice ad zs.length cap, .int .i64 0, .int .u64 88172645463325252, .int .i64 0] 99) = w0
  have h4 : Src4 w0 w0 w.heap.size (.slice ad zs.length cap) 0 88172645463325252 0 := by
    subst hw0
    refine ⟨⟨?_, ?_, ?_, ?_⟩, ⟨?_, ?_, ?_⟩, only_refl _ _⟩ <;> simp
  have Hb0 : Hid (Below w.heap.size w w0) := by subst hw0; exact (Below.refl _ _).alloc (Nat.le_refl _) _
  have Hsz : Hid (w.heap.size < w0.heap.size) := by subst hw0; show _ < _; simp
  clear hw0
  go_loopw [4] (fun i wr => ∃ (k : Nat) (m : Int), k ≤ zs.length ∧ i = .int .i64 k ∧ 0 ≤ m ∧ m < 18446744073709551616 ∧ Src4 w0 wr w.heap.size (.slice ad zs.length cap) 0 m 0) (fun i _ => zs.length - (intOf i).toNat)
  case atStart => exact ⟨0, _, Nat.zero_le _, rfl, by omega, by omega, h4⟩
  case round =>
    obtain ⟨k, m, hk, rfl, hm0, hm1, h4⟩ := hrel
    have H4 : Hid (Src4 w0 wr w.heap.size (.slice ad zs.length cap) 0 m 0) := h4
    obtain ⟨⟨c0, c1, c2, c3⟩, ⟨f1, f2, f3⟩, h5⟩ := h4
    clear h4 h5
    by_cases hkl : k < zs.length ∧ k < 64
    · obtain ⟨hkl, hk64⟩ := hkl
      have hb : Below w.heap.size w wr := Hb0.out.trans ((Below.refl _ _).grown H4.out.2.2 (by have := Hsz.out; omega) (fun j hj => by simp at hj; omega))
      rcases Hr.out.below hb with ⟨hzz, _⟩ | ⟨b, off, cap', he, hlt, hc⟩
      · rw [hzz] at hkl; simp at hkl
      · simp only [Value.slice.injEq] at he
        obtain ⟨rfl, _, rfl⟩ := he
        obtain ⟨hck, hz0, hz1⟩ := hc k hkl
        clear hc hb
        go_wp2
        go_region
        go_wp2
        go_roundw
        case rel =>
          have r := wrap_range (bits BinOp.xor IntKind.u64 m zs[k] * 1099511628211)
          exact ⟨k + 1, _, by omega, by go_num, r.1, r.2, src4_mix H4.out _⟩
        case measure => simp [intOf]; omega
    · have hd0 : 0 ≤ (zs.length : Int) / 20 := by omega
      by_cases hkl2 : (k : Int) < (zs.length : Int)
      · have hk64 : ¬ (k : Int) < 64 := by omega
        clear hkl
        by_cases h12 : (12 : Int) < (zs.length : Int) / 20
        · go_wp2
          go_ret
          exact ⟨rfl, srcEnd Hr.out hz Hb0.out Hsz.out (src4_size (src4_size H4.out _) _) hm0 hm1 (by omega) (by omega)⟩
        · go_wp2
          go_ret
          exact ⟨rfl, srcEnd Hr.out hz Hb0.out Hsz.out (src4_size H4.out _) hm0 hm1 (by omega) (by omega)⟩
      · clear hkl
        by_cases h12 : (12 : Int) < (zs.length : Int) / 20
        · go_wp2
          go_ret
          exact ⟨rfl, srcEnd Hr.out hz Hb0.out Hsz.out (src4_size (src4_size H4.out _) _) hm0 hm1 (by omega) (by omega)⟩
        · go_wp2
          go_ret
          exact ⟨rfl, srcEnd Hr.out hz Hb0.out Hsz.out (src4_size H4.out _) hm0 hm1 (by omega) (by omega)⟩

theorem grownBy_trans {a b c : World} {g : Nat} (h : a.grownBy b (some g)) (k : b.grownBy c (some g)) : a.grownBy c (some g) :=
  ⟨k.os.trans h.os, k.tape.trans h.tape, k.output.trans h.output, Nat.le_trans h.size k.size, fun j hj hne => (k.block j (Nat.lt_of_lt_of_le hj h.size) hne).trans (h.block j hj hne)⟩

theorem grownBy_alloc8 {a b : World} {g : Nat} (h : a.grownBy b (some g)) (o : Obj) : a.grownBy (b.alloc o) (some g) :=
  ⟨h.os, h.tape, h.output, Nat.le_trans h.size (by simp), fun j hj hne => (Below.heap_alloc b o j (Nat.lt_of_lt_of_le hj h.size)).trans (h.block j hj hne)⟩

theorem Src.alloc {B g : Nat} {w : World} (h : Src B w g) (o : Obj) : Src B (w.alloc o) g := by
  obtain ⟨hB, hg, v, zs, a, m, s, hr, hz, ha0, ha1, hm0, hm1, hs0, hs1, ⟨c0, c1, c2, c3⟩, f1, f2, f3⟩ := h
  have hb : Below w.heap.size w (w.alloc o) := (Below.refl _ _).alloc (Nat.le_refl _) _
  refine ⟨hB, by simp; omega, v, zs, a, m, s, hr.below (hb.mono (by omega)), hz, ha0, ha1, hm0, hm1, hs0, hs1, ⟨?_, ?_, ?_, ?_⟩, ?_, ?_, ?_⟩
  · rw [hb.cell (by exact hg)]; exact c0
  · rw [hb.cell (by exact hg)]; exact c1
  · rw [hb.cell (by exact hg)]; exact c2
  · rw [hb.cell (by exact hg)]; exact c3
  · rw [hb.frozen (by exact hg)]; exact f1
  · rw [hb.frozen (by exact hg)]; exact f2
  · rw [hb.frozen (by exact hg)]; exact f3
end Go.Proofs.YtljhoplcfoiiiaaDoor
