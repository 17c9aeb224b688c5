/- The source of draws: what its block holds, and what a number drawn from it is: below what was asked. -/
import Derived.Test.YtljhoplcfoiiiaaDoorRows
import Derived.WalkKit
import Derived.WalkLawsBesides
import Derived.WalkSpells
import Derived.OwnWalk
import Derived.Below
import Derived.BigRegion
import Derived.Deep.QuietTactic
import Derived.BigQuiet
import Derived.Deep.RegionHeld3
import Derived.Deep.DeepCutAuto
import Derived.Laws.Bits64
import Derived.Laws.BitsAllLaws
namespace Go.Proofs.YtljhoplcfoiiiaaDoor
open Go.RowKit

/-- the slice v of bytes, in a block below B, reads as the numbers zs -/
def Row8 (B : Nat) (w : World) (v : Value) (zs : List Int) : Prop :=
  (zs = [] ∧ ∃ a cap, v = .slice a 0 cap) ∨
  ∃ b off cap, v = .slice (some ⟨b, off, none⟩) zs.length cap ∧ b < B ∧ ∀ i (h : i < zs.length), w.cell? ⟨b, off + i, none⟩ = some (.int .u8 zs[i]) ∧ 0 ≤ zs[i] ∧ zs[i] < 256

theorem Row8.below {B : Nat} {w w' : World} {v : Value} {zs : List Int} (h : Row8 B w v zs) (hb : Below B w w') : Row8 B w' v zs := by
  rcases h with h | ⟨b, off, cap, rfl, hlt, hc⟩
  · exact .inl h
  · exact .inr ⟨b, off, cap, rfl, hlt, fun i hi => by rw [hb.cell (by exact hlt)]; exact hc i hi⟩

theorem Row8.len {B : Nat} {w : World} {v : Value} {zs : List Int} (h : Row8 B w v zs) : ∃ a cap, v = .slice a zs.length cap := by
  rcases h with ⟨rfl, a, cap, rfl⟩ | ⟨b, off, cap, rfl, _⟩
  · exact ⟨a, cap, rfl⟩
  · exact ⟨_, cap, rfl⟩

/-- block g is a source over bytes that lie below B -/
def Src (B : Nat) (w : World) (g : Nat) : Prop :=
  B ≤ g ∧ g < w.heap.size ∧ ∃ (v : Value) (zs : List Int) (at' mix size : Int),
    Row8 B w v zs ∧ zs.length ≤ 1048576 ∧ 0 ≤ at' ∧ at' ≤ 1048576 ∧ 0 ≤ mix ∧ mix < 18446744073709551616 ∧ 0 ≤ size ∧ size ≤ 12 ∧
    (w.cell? ⟨g, 0, none⟩ = some v ∧ w.cell? ⟨g, 1, none⟩ = some (.int .i64 at') ∧ w.cell? ⟨g, 2, none⟩ = some (.int .u64 mix) ∧ w.cell? ⟨g, 3, none⟩ = some (.int .i64 size)) ∧
    (w.frozen? ⟨g, 1, none⟩ = false ∧ w.frozen? ⟨g, 2, none⟩ = false ∧ w.frozen? ⟨g, 3, none⟩ = false)

/-- w' is w but for block g, and new blocks -/
theorem only_refl (w : World) (g : Nat) : w.grownBy w (some g) := ⟨rfl, rfl, rfl, Nat.le_refl _, fun _ _ _ => rfl⟩

theorem xor_range (a b : Int) : 0 ≤ bits .xor .u64 a b ∧ bits .xor .u64 a b < 18446744073709551616 := by
  show 0 ≤ IntKind.u64.wrap _ ∧ IntKind.u64.wrap _ < _
  rw [IntKind.wrap_u64]
  omega

/-- the four cells, and that all else is as it was -/
def Src4 (w0 w : World) (g : Nat) (v : Value) (a m s : Int) : Prop :=
  (w.cell? ⟨g, 0, none⟩ = some v ∧ w.cell? ⟨g, 1, none⟩ = some (.int .i64 a) ∧ w.cell? ⟨g, 2, none⟩ = some (.int .u64 m) ∧ w.cell? ⟨g, 3, none⟩ = some (.int .i64 s)) ∧
  (w.frozen? ⟨g, 1, none⟩ = false ∧ w.frozen? ⟨g, 2, none⟩ = false ∧ w.frozen? ⟨g, 3, none⟩ = false) ∧ w0.grownBy w (some g)

theorem grownBy_setCell8 {w0 w : World} {g : Nat} (h : w0.grownBy w (some g)) (i : Nat) (v : Value) : w0.grownBy (w.setCell ⟨g, i, none⟩ v) (some g) := by
  refine ⟨h.os, h.tape, h.output, by simpa [World.setCell] using h.size, fun k hk hne => ?_⟩
  rw [Below.heap_setCell _ _ _ _ (fun e => hne (by simp [e]))]
  exact h.block k hk hne

theorem src4_mix {w0 w : World} {g : Nat} {v : Value} {a m s : Int} (h : Src4 w0 w g v a m s) (m' : Int) : Src4 w0 ((w.setCell ⟨g, 2, none⟩ (.int .u64 m')).drew) g v a m' s := by
  obtain ⟨⟨c0, c1, c2, c3⟩, ⟨f1, f2, f3⟩, h5⟩ := h
  refine ⟨⟨?_, ?_, ?_, ?_⟩, ⟨?_, ?_, ?_⟩, ?_⟩
  · exact (World.cell?_setCell_other _ _ _ _ (by simp)).trans c0
  · exact (World.cell?_setCell_other _ _ _ _ (by simp)).trans c1
  · exact World.cell?_setCell_same _ _ _ c2
  · exact (World.cell?_setCell_other _ _ _ _ (by simp)).trans c3
  · exact (World.frozen?_setCell _ _ _ _).trans f1
  · exact (World.frozen?_setCell _ _ _ _).trans f2
  · exact (World.frozen?_setCell _ _ _ _).trans f3
  · have h6 := grownBy_setCell8 h5 2 (.int .u64 m')
    exact ⟨h6.os, h6.tape, h6.output, h6.size, h6.block⟩

theorem src4_at {w0 w : World} {g : Nat} {v : Value} {a m s : Int} (h : Src4 w0 w g v a m s) (n : Nat) (a' : Int) : Src4 w0 ((w.drewN n).setCell ⟨g, 1, none⟩ (.int .i64 a')) g v a' m s := by
  obtain ⟨⟨c0, c1, c2, c3⟩, ⟨f1, f2, f3⟩, h5⟩ := h
  have h6 : w0.grownBy (w.drewN n) (some g) := ⟨h5.os, h5.tape, h5.output, h5.size, h5.block⟩
  refine ⟨⟨?_, ?_, ?_, ?_⟩, ⟨?_, ?_, ?_⟩, grownBy_setCell8 h6 1 _⟩
  · exact (World.cell?_setCell_other _ _ _ _ (by simp)).trans c0
  · exact World.cell?_setCell_same _ _ _ (u := .int .i64 a) c1
  · exact (World.cell?_setCell_other _ _ _ _ (by simp)).trans c2
  · exact (World.cell?_setCell_other _ _ _ _ (by simp)).trans c3
  · exact (World.frozen?_setCell _ _ _ _).trans f1
  · exact (World.frozen?_setCell _ _ _ _).trans f2
  · exact (World.frozen?_setCell _ _ _ _).trans f3

/-- from the four cells back to the source -/
theorem src_of4 {B : Nat} {w0 w : World} {g : Nat} {v : Value} {zs : List Int} {a m s : Int} (hB : B ≤ g) (hg : g < w0.heap.size) (hr : Row8 B w0 v zs) (hz : zs.length ≤ 1048576)
    (h : Src4 w0 w g v a m s) (ha0 : 0 ≤ a) (ha1 : a ≤ 1048576) (hm0 : 0 ≤ m) (hm1 : m < 18446744073709551616) (hs0 : 0 ≤ s) (hs1 : s ≤ 12) : Src B w g := by
  obtain ⟨hc, hf, h5⟩ := h
  have hb : Below B w0 w := (Below.refl _ _).grown h5 (by omega) (fun k hk => by simp at hk; omega)
  exact ⟨hB, Nat.lt_of_lt_of_le hg h5.size, v, zs, a, m, s, hr.below hb, hz, ha0, ha1, hm0, hm1, hs0, hs1, hc, hf⟩

set_option maxRecDepth 100000 in
set_option maxHeartbeats 1600000 in
theorem srcN (B g : Nat) (most : Int) (w : World) (hs : Src B w g) (hm : most ≤ 9223372036854775807) :
    Calls Tryd.prog 40 #[.pointer (some ⟨g, 0, none⟩), .int .i64 most] w fun e w' => ∃ r : Int, e = .returned (.int .i64 r) ∧ 0 ≤ r ∧ (r = 0 ∨ r < most) ∧ Src B w' g ∧ w.grownBy w' (some g) := by
  by_cases h1 : most ≤ 1
  · have Hs : Hid (Src B w g) := hs
    clear hs
    go_enter Tryd.func40, Tryd.ntmps40
    go_wp2
    go_ret
    exact ⟨0, rfl, by omega, .inl rfl, Hs.out, only_refl w g⟩
  · obtain ⟨hBg, hgw, v, zs, at', mix, size, hrow, hzl, ha0, ha1, hm0, hm1, hs0, hs1, ⟨c0, c1, c2, c3⟩, f1, f2, f3⟩ := hs
    have Hrow : Hid (Row8 B w v zs) := hrow
    obtain ⟨ad, cap, rfl⟩ := hrow.len
    clear hrow
    go_enter Tryd.func40, Tryd.ntmps40
    go_wp2
    go_quiet (fail)
    go_upto_if 17 with fail
    go_cut [5] (fun x wc => ∃ (y a m : Int), x = .int .u64 y ∧ 0 ≤ y ∧ y < 256 ∧ 0 ≤ a ∧ a ≤ 1048576 ∧ 0 ≤ m ∧ m < 18446744073709551616 ∧ Src4 w wc g (.slice ad zs.length cap) a m size)
    case first =>
      by_cases hat : at' < (zs.length : Int)
      · rcases Hrow.out with ⟨hz, _⟩ | ⟨b, off, cap', he, hlt, hc⟩
        · rw [hz] at hat; simp at hat; omega
        · simp only [Value.slice.injEq] at he
          obtain ⟨rfl, _, rfl⟩ := he
          obtain ⟨k, rfl⟩ := Int.eq_ofNat_of_zero_le ha0
          obtain ⟨hck, hz0, hz1⟩ := hc k (by omega)
          have hkl : k < zs.length := by omega
          clear hc
          go_wp2
          go_quiet (fail)
          go_wp2
          go_meet
          exact ⟨_, _, mix, rfl, hz0, hz1, by omega, by omega, hm0, hm1, src4_at ⟨⟨c0, c1, c2, c3⟩, ⟨f1, f2, f3⟩, only_refl w g⟩ _ _⟩
      · go_wp2
        go_meet
        exact ⟨0, at', mix, rfl, by omega, by omega, ha0, ha1, hm0, hm1, ⟨c0, c1, c2, c3⟩, ⟨f1, f2, f3⟩, ⟨rfl, rfl, rfl, Nat.le_refl _, fun _ _ _ => rfl⟩⟩
    case rest =>
      clear c0 c1 c2 c3 f1 f2 f3 ha0 ha1 hm0 hm1
      obtain ⟨y, a, m, rfl, hy0, hy1, ha0, ha1, hm0, hm1, h4⟩ := hcut
      have H4 : Hid (Src4 w wc g (.slice ad zs.length cap) a m size) := h4
      obtain ⟨⟨c0, c1, c2, c3⟩, ⟨f1, f2, f3⟩, h5⟩ := h4
      clear h5
      go_upto_region 7 with fail
      go_cut [] (fun wc => ∃ (a m : Int), 0 ≤ a ∧ a ≤ 1048576 ∧ 0 ≤ m ∧ m < 18446744073709551616 ∧ Src4 w wc g (.slice ad zs.length cap) a m size)
      case first =>
        go_region
        go_wp2_with fail
        go_meet
        have r := xor_range m (IntKind.u64.wrap (m * 8192))
        exact ⟨_, _, ha0, ha1, r.1, r.2, src4_mix H4.out _⟩
      case rest =>
        clear c0 c1 c2 c3 f1 f2 f3 H4 ha0 ha1 hm0 hm1
        obtain ⟨a, m, ha0, ha1, hm0, hm1, h4⟩ := hcut
        have H4 : Hid (Src4 w wc g (.slice ad zs.length cap) a m size) := h4
        obtain ⟨⟨c0, c1, c2, c3⟩, ⟨f1, f2, f3⟩, h5⟩ := h4
        clear h5
        go_upto_region 8 with fail
        go_cut [] (fun wc => ∃ (a m : Int), 0 ≤ a ∧ a ≤ 1048576 ∧ 0 ≤ m ∧ m < 18446744073709551616 ∧ Src4 w wc g (.slice ad zs.length cap) a m size)
        case first =>
          go_region
          go_wp2_with fail
          go_meet
          have r := xor_range m (m / 128)
          exact ⟨_, _, ha0, ha1, r.1, r.2, src4_mix H4.out _⟩
        case rest =>
          clear c0 c1 c2 c3 f1 f2 f3 H4 ha0 ha1 hm0 hm1
          obtain ⟨a, m, ha0, ha1, hm0, hm1, h4⟩ := hcut
          have H4 : Hid (Src4 w wc g (.slice ad zs.length cap) a m size) := h4
          obtain ⟨⟨c0, c1, c2, c3⟩, ⟨f1, f2, f3⟩, h5⟩ := h4
          clear h5
          go_upto_region 9 with fail
          go_cut [] (fun wc => ∃ (a m : Int), 0 ≤ a ∧ a ≤ 1048576 ∧ 0 ≤ m ∧ m < 18446744073709551616 ∧ Src4 w wc g (.slice ad zs.length cap) a m size)
          case first =>
            go_region
            go_wp2_with fail
            go_meet
            have r := xor_range m (IntKind.u64.wrap (m * 131072))
            exact ⟨_, _, ha0, ha1, r.1, r.2, src4_mix H4.out _⟩
          case rest =>
            clear c0 c1 c2 c3 f1 f2 f3 H4 ha0 ha1 hm0 hm1
            obtain ⟨a, m, ha0, ha1, hm0, hm1, h4⟩ := hcut
            have H4 : Hid (Src4 w wc g (.slice ad zs.length cap) a m size) := h4
            obtain ⟨⟨c0, c1, c2, c3⟩, ⟨f1, f2, f3⟩, h5⟩ := h4
            clear h5
            go_wp2
            go_ret
            have q0 := Int.emod_nonneg (y + m / 1048576) (show most ≠ 0 by omega)
            have q1 := Int.emod_lt_of_pos (y + m / 1048576) (show 0 < most by omega)
            refine ⟨wrap64 ((y + m / 1048576) % most), rfl, ?_, ?_, src_of4 hBg hgw Hrow.out hzl H4.out ha0 ha1 hm0 hm1 hs0 hs1, H4.out.2.2⟩
            · generalize (y + m / 1048576) % most = q at q0 q1
              unfold wrap64; omega
            · generalize (y + m / 1048576) % most = q at q0 q1
              right; unfold wrap64; omega
end Go.Proofs.YtljhoplcfoiiiaaDoor
