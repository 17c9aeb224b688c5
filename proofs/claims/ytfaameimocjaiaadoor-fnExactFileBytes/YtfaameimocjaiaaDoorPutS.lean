/- A number's bytes: what spec.PutNum answers is the zig-zag's varint; so both answer the same. -/
import Derived.Test.YtfaameimocjaiaaDoorPut
import Derived.OwnWalk
import Derived.Below
namespace Go.Proofs.YtfaameimocjaiaaDoor
open Go.RowKit

theorem Tryd.infoU8 : (Tryd.prog.info? 5).map (fun i => (i.zero, i.size, i.bytes)) = some (some (.int .u8 0), 1, 1) := by kernel_rfl

/-- a row of bytes of the call's own, as a text -/
theorem text_own {w : World} {B n : Nat} {v : Value} {l : List UInt8} (h : w.ownsRow B 5 1 v n (Lib.byteCells l)) (hl : n = l.length) (hp : 0 < n) :
    ∃ g cap, v = .slice (some ⟨g, 0, none⟩) n cap ∧ (convert 55 9 (.slice (some ⟨g, 0, none⟩) n cap)).run Tryd.prog w = .ok (.string ⟨l.toArray⟩) w := by
  obtain ⟨h1, h2⟩ := h
  rcases h2 with ⟨_, h0⟩ | ⟨g, cap, cur, rfl, hb, hh, hn, hm, hs, ht⟩
  · omega
  · subst hl
    refine ⟨g, cap, rfl, run_convert_bytes_back w 55 9 5 ⟨g, 0, none⟩ cap l Tryd.underlying55 Tryd.underlying5 Tryd.underlying9 ?_⟩
    intro j hj
    have hc := World.ownsRow.cellAt (w := w) (base := B) (e := 5) (size := 1) (g := g) (n := l.length) (cap := cap) (xs := Lib.byteCells l) ⟨h1, .inr ⟨g, cap, cur, rfl, hb, hh, hn, hm, hs, ht⟩⟩ j (by omega)
    have ha : (⟨g, 0, none⟩ : Addr).add j = ⟨g, j, none⟩ := by simp [Addr.add]; exact fun h => h.symm
    rw [ha, hc]
    simp [Lib.byteCells, hj]

set_option maxRecDepth 100000 in
set_option maxHeartbeats 800000 in
theorem specPut' (n : Int) (u : Nat) (hu : Hid (Lib.zigzag n = u)) (w : World) (h0 : -9223372036854775808 ≤ n) (h1 : n ≤ 9223372036854775807) (hz : Hid (u < 18446744073709551616)) :
    Calls Tryd.prog 26 #[.int .i64 n] w fun e w' => e = .returned (.string ⟨(Lib.uvarint u).toArray⟩) ∧ Below w.heap.size w w' := by
  obtain ⟨i0, hi, hz0, hz1, hz2⟩ := info_parts Tryd.infoU8
  go_enter Tryd.func26, Tryd.ntmps26
  go_wp2_with fail
  refine (specFold n _ h0 h1).mono ?_
  rintro e w1 ⟨rfl, hw1⟩
  subst w1
  rw [hu.out]
  go_wp2_with fail
  go_loopw [3, 4] (fun t b wr => ∃ (pre : List UInt8) (x : Int), pre.length + (Lib.uvarint x.toNat).length ≤ 10 ∧ t = .int .u64 x ∧ 0 ≤ x ∧ x < 18446744073709551616 ∧ Hid (Lib.uvarint u = pre ++ Lib.uvarint x.toNat) ∧
      wr.ownsRow w.heap.size 5 1 b pre.length (Lib.byteCells pre) ∧ Below w.heap.size w wr) (fun t _ _ => (intOf t).toNat)
  case atStart =>
    refine ⟨[], u, by have := Lib.uvarint_length64 hz.out; simpa using this, rfl, by omega, by have := hz.out; omega, rfl, ?_, ?_⟩
    · exact World.ownsRow_lit (base := w.heap.size) (e := 5) (size := 1) w #[] 0 (Nat.le_refl _) (Nat.zero_le _) rfl
    · exact (Below.refl _ _).alloc (Nat.le_refl _) _
  case round =>
    obtain ⟨pre, x, hpl, rfl, hx0, hx1, hpre, hown, hnx⟩ := hrel
    have hyp := Lib.uvarint_pos x.toNat
    have hp9 : pre.length ≤ 9 := by omega
    have Hp : Hid (pre.length + (Lib.uvarint x.toNat).length ≤ 10) := hpl
    clear hpl hyp
    by_cases hlt : 128 ≤ x
    · go_wp2_with (at_builtin; refine wpList_append_own _ rfl _ _ 55 rfl w.heap.size 5 i0 (.int .u8 0) 1 1 Tryd.underlying55 hi hz0 hz1 hz2 rfl (by decide) _ _ _ rfl (hown.alloc _) ⟨wr.heap.size, 0, none⟩ 1 1 [Value.int .u8 (x % 128 + 128)] rfl rfl ?c1 ?c2 ?c3 ?c4 ?c5 ?_)
      case c1 => exact cell_one_new _ _ _
      case c2 => intro u hu; simp at hu; subst hu; rfl
      case c3 => unfold maxLen; omega
      case c4 => omega
      case c5 => have := hnx.size; simp; omega
      intro v' w1 hown' hgrow _
      have hnx1 : Below w.heap.size w w1 := (hnx.alloc (by have := hnx.size; omega) _).grown hgrow (by have := hnx.size; simp; omega) (fun k hk => (hown.lt k hk).1)
      go_wp2
      go_roundw
      case rel =>
        have hv : 128 ≤ x.toNat := by omega
        have e1 : (x / 128).toNat = x.toNat / 128 := by omega
        have hp := Hp.out
        have hpp := hpre.out
        rw [Lib.uvarint_big hv] at hp hpp
        simp only [List.length_cons] at hp
        refine ⟨pre ++ [(x.toNat % 128 + 128).toUInt8], x / 128, by rw [e1]; simp; omega, rfl, by omega, by omega, by rw [e1]; show Lib.uvarint u = _; rw [hpp]; simp, ?_, hnx1⟩
        have ec : ((x.toNat % 128 + 128 : Nat) : Int) = x % 128 + 128 := by omega
        rw [Lib.byteCells_snoc pre (by omega), List.length_append, List.length_singleton, ec]
        exact hown'
      case measure => simp [intOf]; omega
    · go_wp2_with (at_builtin; refine wpList_append_own _ rfl _ _ 55 rfl w.heap.size 5 i0 (.int .u8 0) 1 1 Tryd.underlying55 hi hz0 hz1 hz2 rfl (by decide) _ _ _ rfl (hown.alloc _) ⟨wr.heap.size, 0, none⟩ 1 1 [Value.int .u8 x] rfl rfl ?d1 ?d2 ?d3 ?d4 ?d5 ?_)
      case d2 => rfl
      case d3 => unfold maxLen; omega
      case d4 => omega
      case d5 => have := hnx.size; simp; omega
      intro v' w1 hown' hgrow _
      have hnx1 : Below w.heap.size w w1 := (hnx.alloc (by have := hnx.size; omega) _).grown hgrow (by have := hnx.size; simp; omega) (fun k hk => (hown.lt k hk).1)
      have ec : ((x.toNat : Nat) : Int) = x := by omega
      have hl : Lib.byteCells pre ++ [Value.int .u8 x] = Lib.byteCells (pre ++ [x.toNat.toUInt8]) := by rw [Lib.byteCells_snoc pre (by omega), ec]
      rw [hl] at hown'
      obtain ⟨g, cap, hv, hcv⟩ := text_own hown' (by simp) (by omega)
      rw [hv]
      have he := hpre.out
      rw [Lib.uvarint_small (show x.toNat < 128 by omega)] at he
      have He : Hid (_ = _) := he
      clear he hl ec hv hown' hgrow hown
      go_wp2
      go_ret
      refine ⟨?_, hnx1⟩
      simp [He.out]

theorem specPut (n : Int) (w : World) (h0 : -9223372036854775808 ≤ n) (h1 : n ≤ 9223372036854775807) :
    Calls Tryd.prog 26 #[.int .i64 n] w fun e w' => e = .returned (.string ⟨(Lib.uvarint (Lib.zigzag n)).toArray⟩) ∧ Below w.heap.size w w' :=
  specPut' n _ (rfl : Lib.zigzag n = Lib.zigzag n) w h0 h1 (Lib.zigzag_lt h0 h1)

end Go.Proofs.YtfaameimocjaiaaDoor
