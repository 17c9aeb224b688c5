/- The sum of a text: what impl.Sum and spec.Sum answer, over plain lists of bytes, and that both calls answer just that. A number's bytes: what impl.PutNum and spec.PutNum answer is the zig-zag's varint. A number's bytes: what spec.PutNum answers is the zig-zag's varint; so both answer the same. -/
import Derived.Test.YtijgonjnmibifaaGreatDoorRows
import Derived.WalkKit
import Derived.WalkLawsBesides
import Derived.WalkSpells
import Derived.Lib.Zigzag
import Derived.Lib.VarintMem
import Derived.Laws.IdiomStrings
import Derived.OwnWalk
import Derived.Below
namespace Go.Proofs.YtijgonjnmibifaaGreatDoor
open Go.RowKit

theorem ret_int {k : IntKind} {a b : Int} (h : a = b) : Ending.returned (.int k a) = .returned (.int k b) := by rw [h]

def sumB (l : List UInt8) : Int := l.foldl (fun n c => (257 * n + (c.toNat : Int)) % 4294967291) 7

theorem sumB_snoc (l : List UInt8) (c : UInt8) : sumB (l ++ [c]) = (257 * sumB l + (c.toNat : Int)) % 4294967291 := by
  simp [sumB, List.foldl_append]

theorem fold_bd (l : List UInt8) (n : Int) (h : 0 ≤ n ∧ n < 4294967291) :
    0 ≤ l.foldl (fun n c => (257 * n + (c.toNat : Int)) % 4294967291) n ∧ l.foldl (fun n c => (257 * n + (c.toNat : Int)) % 4294967291) n < 4294967291 := by
  induction l generalizing n with
  | nil => exact h
  | cons c l ih => exact ih _ ⟨by show 0 ≤ (257 * n + (c.toNat : Int)) % 4294967291; omega, by show (257 * n + (c.toNat : Int)) % 4294967291 < 4294967291; omega⟩

theorem sumB_bd (l : List UInt8) : 0 ≤ sumB l ∧ sumB l < 4294967291 := fold_bd l 7 (by decide)

theorem take_snoc (s : ByteArray) (k : Nat) (h : k < s.size) : s.data.toList.take (k + 1) = s.data.toList.take k ++ [s[k]] := by
  rw [List.take_succ_eq_append_getElem (by simpa using h)]; rfl

/-- what both answer -/
def sumS (s : ByteArray) : Int := if s.size ≤ 20000 then sumB s.data.toList else 0

end Go.Proofs.YtijgonjnmibifaaGreatDoor

namespace Go.Proofs.YtijgonjnmibifaaGreatDoor
open Go.RowKit

theorem ret_u64 {a b : Int} (h : a = b) : Ending.returned (.int .u64 a) = .returned (.int .u64 b) := by rw [h]

theorem zz_pos {n : Int} (h : 0 ≤ n) : n * 2 = ((Lib.zigzag n : Nat) : Int) := (Lib.zigzag_nonneg h).symm
theorem zz_pos' {n : Int} (h : 0 ≤ n) : 2 * n = ((Lib.zigzag n : Nat) : Int) := by rw [Lib.zigzag_nonneg h]; omega
theorem zz_neg' {n : Int} (h : n < 0) : 2 * -(n + 1) + 1 = ((Lib.zigzag n : Nat) : Int) := by
  unfold Lib.zigzag
  rw [if_neg (by omega)]
  omega

set_option maxHeartbeats 400000 in
theorem implFold (n : Int) (w : World) (h0 : -9223372036854775808 ≤ n) (h1 : n ≤ 9223372036854775807) :
    Calls Tryz.prog 106 #[.int .i64 n] w fun e w' => e = .returned (.int .u64 ((Lib.zigzag n : Nat) : Int)) ∧ w' = w := by
  by_cases hn : n < 0
  · have H : Hid (_ = _) := Lib.zigzag_neg h0 hn
    go_enter Tryz.func106, Tryz.ntmps106
    go_wp2
    go_ret
    exact ⟨ret_u64 H.out, rfl⟩
  · have H : Hid (_ = _) := zz_pos (n := n) (by omega)
    go_enter Tryz.func106, Tryz.ntmps106
    go_wp2
    go_ret
    exact ⟨ret_u64 H.out, rfl⟩

set_option maxHeartbeats 400000 in
theorem specFold (n : Int) (w : World) (h0 : -9223372036854775808 ≤ n) (h1 : n ≤ 9223372036854775807) :
    Calls Tryz.prog 53 #[.int .i64 n] w fun e w' => e = .returned (.int .u64 ((Lib.zigzag n : Nat) : Int)) ∧ w' = w := by
  by_cases hn : n < 0
  · have H : Hid (_ = _) := zz_neg' hn
    go_enter Tryz.func53, Tryz.ntmps53
    go_wp2
    go_ret
    exact ⟨ret_u64 H.out, rfl⟩
  · have H : Hid (_ = _) := zz_pos' (n := n) (by omega)
    go_enter Tryz.func53, Tryz.ntmps53
    go_wp2
    go_ret
    exact ⟨ret_u64 H.out, rfl⟩

theorem Tryz.elemBs : Tryz.prog.elem 55 = 5 := by kernel_rfl
theorem Tryz.elemTen : Tryz.prog.elem 164 = 5 := by kernel_rfl
theorem Tryz.arrayLenTen : Tryz.prog.arrayLen 164 = 10 := by kernel_rfl
theorem Tryz.sizeU8 (w : World) : (Go.sizeOf 5).run Tryz.prog w = .ok 1 w := by kernel_rfl

theorem u64_and127 (x : Int) (h0 : 0 ≤ x) (h1 : x < 18446744073709551616) : bits .and .u64 x 127 = x % 128 := by
  have h := bits_mask .u64 64 (by decide) wraps_u64 7 (by decide) x h0 (by omega)
  simpa using h

/-- 'text[:k+1]' of the array of ten -/
theorem slice10 (b k : Nat) (hk : k < 10) (W : World) :
    (Instr.sliceAt 164 (.pointer (some ⟨b, 0, none⟩)) none (some (.int .i64 ((k : Int) + 1))) none).run Tryz.prog W = .ok (.slice (some ⟨b, 0, none⟩) (k + 1) 10) W := by
  rw [run_sliceAt_array_h W 164 ⟨b, 0, none⟩ (by kernel_rfl) .i64 ((k : Int) + 1) (by omega) (by rw [Tryz.arrayLenTen]; omega), Tryz.elemTen, Tryz.sizeU8, Tryz.arrayLenTen]
  have e : ((k : Int) + 1).toNat = k + 1 := by omega
  simp [Result.andThen, slicedAt, e, Addr.add]

/-- the ten cells, one more of them laid, as a text -/
theorem text10 (w : World) (C : Array Value) (pre : List UInt8) (x : Int) (hx0 : 0 ≤ x) (hx1 : x < 256) (hC : C.size = 10) (hp : pre.length < 10)
    (hc : ∀ j (h : j < pre.length), C[j]? = some (.int .u8 (pre[j].toNat : Int))) :
    (convert 55 9 (.slice (some ⟨w.heap.size, 0, none⟩) (pre.length + 1) 10)).run Tryz.prog (w.alloc (.cells (C.setIfInBounds pre.length (.int .u8 x)) 164)) =
      .ok (.string ⟨(pre ++ [x.toNat.toUInt8]).toArray⟩) (w.alloc (.cells (C.setIfInBounds pre.length (.int .u8 x)) 164)) := by
  have h := run_convert_bytes_back (P := Tryz.prog) (w.alloc (.cells (C.setIfInBounds pre.length (.int .u8 x)) 164)) 55 9 5 ⟨w.heap.size, 0, none⟩ 10 (pre ++ [x.toNat.toUInt8]) Tryz.underlying55 Tryz.underlying5 Tryz.underlying9 (by
    intro j hj
    have ha : (⟨w.heap.size, 0, none⟩ : Addr).add j = ⟨w.heap.size, j, none⟩ := by simp [Addr.add]; exact fun h => h.symm
    rw [ha, World.cell?_alloc_mark, Array.getElem?_setIfInBounds]
    simp only [List.length_append, List.length_cons, List.length_nil] at hj
    by_cases hjp : j < pre.length
    · rw [if_neg (by omega), hc j hjp, List.getElem_append_left hjp]
    · obtain rfl : j = pre.length := by omega
      rw [if_pos rfl, if_pos (by omega)]
      have e : (x.toNat.toUInt8.toNat : Int) = x := by rw [Lib.toUInt8_toNat (by omega)]; omega
      have e2 : (pre ++ [x.toNat.toUInt8])[pre.length]'(by simp) = x.toNat.toUInt8 := by simp
      rw [e2, e])
  simpa using h

/-- one step of the varint: what stands, and what is left -/
theorem uv_more {pre : List UInt8} {u v f : Nat} (he : Lib.uvarint u = pre ++ Lib.uvarint v) (hv : 128 ≤ v) (hf : v < 128 ^ (f + 1)) :
    ∃ g, f = g + 1 ∧ v / 128 < 128 ^ (g + 1) ∧ Lib.uvarint u = (pre ++ [(v % 128 + 128).toUInt8]) ++ Lib.uvarint (v / 128) := by
  cases f with
  | zero => simp at hf; omega
  | succ g => exact ⟨g, rfl, Nat.div_lt_of_lt_mul (by rw [Nat.mul_comm, ← Nat.pow_succ]; exact hf), by rw [he, Lib.uvarint_big hv]; simp⟩

set_option maxRecDepth 100000 in
set_option maxHeartbeats 400000 in
theorem implPut' (n : Int) (u : Nat) (hu : Hid (Lib.zigzag n = u)) (w : World) (h0 : -9223372036854775808 ≤ n) (h1 : n ≤ 9223372036854775807) (hz : u < 18446744073709551616) :
    Calls Tryz.prog 63 #[.int .i64 n] w fun e w' => e = .returned (.string ⟨(Lib.uvarint u).toArray⟩) ∧ Below w.heap.size w w' := by
  go_enter Tryz.func63, Tryz.ntmps63
  go_wp2_with fail
  refine (implFold n _ h0 h1).mono ?_
  rintro e w1 ⟨rfl, rfl⟩
  rw [hu.out]
  go_wp2_with fail
  go_loopw [4, 5] (fun t i wr => ∃ (pre : List UInt8) (x : Int) (f : Nat) (C : Array Value), pre.length + f = 9 ∧ i = .int .i64 pre.length ∧ t = .int .u64 x ∧ 0 ≤ x ∧ x < 18446744073709551616 ∧ x.toNat < 128 ^ (f + 1) ∧ Hid (Lib.uvarint u = pre ++ Lib.uvarint x.toNat) ∧
      wr = w.alloc (.cells C 164) ∧ C.size = 10 ∧ (∀ j (h : j < pre.length), C[j]? = some (.int .u8 (pre[j].toNat : Int)))) (fun t _ _ => (intOf t).toNat)
  case atStart => exact ⟨[], u, 9, _, rfl, rfl, rfl, by omega, by omega, Nat.lt_of_lt_of_le hz (by decide), rfl, rfl, rfl, fun j h => by cases h⟩
  case round =>
    obtain ⟨pre, x, f, C, hpf, rfl, rfl, hx0, hx1, hvf, hpre, rfl, hC, hcells⟩ := hrel
    have hk : pre.length < C.size := by omega
    obtain ⟨o, ho⟩ : ∃ o, C[pre.length]? = some o := ⟨_, Array.getElem?_eq_getElem hk⟩
    have Hc : Hid (∀ j (h : j < pre.length), C[j]? = some (.int .u8 (pre[j].toNat : Int))) := hcells
    have Hf : Hid (pre.length + f = 9 ∧ x.toNat < 128 ^ (f + 1) ∧ C.size = 10) := ⟨hpf, hvf, hC⟩
    have hp10 : pre.length < 10 := by omega
    clear hcells hpf hvf hC hk hz
    by_cases hlt : 128 ≤ x
    · have Hb : Hid (_ = _) := u64_and127 x hx0 hx1
      go_wp2
      go_roundw
      case rel =>
        obtain ⟨h1, h2, h3⟩ := Hf.out
        obtain ⟨g, rfl, hg, he⟩ := uv_more hpre.out (show 128 ≤ x.toNat by omega) h2
        have e1 : (x / 128).toNat = x.toNat / 128 := by omega
        refine ⟨pre ++ [(x.toNat % 128 + 128).toUInt8], x / 128, g, _, by simp; omega, by simp, rfl, by omega, by omega, by rw [e1]; exact hg, by rw [e1]; exact he, rfl, by simpa using h3, ?_⟩
        intro j hj
        rw [Array.getElem?_setIfInBounds]
        simp only [List.length_append, List.length_cons, List.length_nil] at hj
        by_cases hjp : j < pre.length
        · rw [if_neg (by omega), Hc.out j hjp, List.getElem_append_left hjp]
        · obtain rfl : j = pre.length := by omega
          rw [if_pos rfl, if_pos (by omega), Hb.out]
          have e : (((x.toNat % 128 + 128).toUInt8).toNat : Int) = (x % 128 + 128) % 256 := by rw [Lib.toUInt8_toNat (by omega)]; omega
          have e2 : (pre ++ [(x.toNat % 128 + 128).toUInt8])[pre.length]'(by simp) = (x.toNat % 128 + 128).toUInt8 := by simp
          rw [e2, e]
      case measure => simp [intOf]; omega
    · have hsl := slice10 w.heap.size pre.length hp10
      have hcv := text10 w C pre x hx0 (by omega) Hf.out.2.2 hp10 Hc.out
      go_wp2
      go_ret
      refine ⟨?_, (Below.refl _ _).alloc (Nat.le_refl _) _⟩
      have he := hpre.out
      rw [Lib.uvarint_small (show x.toNat < 128 by omega)] at he
      simp [he]

theorem implPut (n : Int) (w : World) (h0 : -9223372036854775808 ≤ n) (h1 : n ≤ 9223372036854775807) :
    Calls Tryz.prog 63 #[.int .i64 n] w fun e w' => e = .returned (.string ⟨(Lib.uvarint (Lib.zigzag n)).toArray⟩) ∧ Below w.heap.size w w' :=
  implPut' n _ (rfl : Lib.zigzag n = Lib.zigzag n) w h0 h1 (Lib.zigzag_lt h0 h1)
end Go.Proofs.YtijgonjnmibifaaGreatDoor

namespace Go.Proofs.YtijgonjnmibifaaGreatDoor
open Go.RowKit

theorem Tryz.infoU8 : (Tryz.prog.info? 5).map (fun i => (i.zero, i.size, i.bytes)) = some (some (.int .u8 0), 1, 1) := by kernel_rfl

/-- a row of bytes of the call's own, as a text -/
theorem text_own {w : World} {B n : Nat} {v : Value} {l : List UInt8} (h : w.ownsRow B 5 1 v n (Lib.byteCells l)) (hl : n = l.length) (hp : 0 < n) :
    ∃ g cap, v = .slice (some ⟨g, 0, none⟩) n cap ∧ (convert 55 9 (.slice (some ⟨g, 0, none⟩) n cap)).run Tryz.prog w = .ok (.string ⟨l.toArray⟩) w := by
  obtain ⟨h1, h2⟩ := h
  rcases h2 with ⟨_, h0⟩ | ⟨g, cap, cur, rfl, hb, hh, hn, hm, hs, ht⟩
  · omega
  · subst hl
    refine ⟨g, cap, rfl, run_convert_bytes_back w 55 9 5 ⟨g, 0, none⟩ cap l Tryz.underlying55 Tryz.underlying5 Tryz.underlying9 ?_⟩
    intro j hj
    have hc := World.ownsRow.cellAt (w := w) (base := B) (e := 5) (size := 1) (g := g) (n := l.length) (cap := cap) (xs := Lib.byteCells l) ⟨h1, .inr ⟨g, cap, cur, rfl, hb, hh, hn, hm, hs, ht⟩⟩ j (by omega)
    have ha : (⟨g, 0, none⟩ : Addr).add j = ⟨g, j, none⟩ := by simp [Addr.add]; exact fun h => h.symm
    rw [ha, hc]
    simp [Lib.byteCells, hj]

set_option maxRecDepth 100000 in
set_option maxHeartbeats 800000 in
theorem specPut' (n : Int) (u : Nat) (hu : Hid (Lib.zigzag n = u)) (w : World) (h0 : -9223372036854775808 ≤ n) (h1 : n ≤ 9223372036854775807) (hz : Hid (u < 18446744073709551616)) :
    Calls Tryz.prog 23 #[.int .i64 n] w fun e w' => e = .returned (.string ⟨(Lib.uvarint u).toArray⟩) ∧ Below w.heap.size w w' := by
  obtain ⟨i0, hi, hz0, hz1, hz2⟩ := info_parts Tryz.infoU8
  go_enter Tryz.func23, Tryz.ntmps23
  go_wp2_with fail
  refine (specFold n _ h0 h1).mono ?_
  rintro e w1 ⟨rfl, hw1⟩
  subst w1
  rw [hu.out]
  go_wp2_with fail
  go_loopw [3, 4] (fun t b wr => ∃ (pre : List UInt8) (x : Int), pre.length + (Lib.uvarint x.toNat).length ≤ 10 ∧ t = .int .u64 x ∧ 0 ≤ x ∧ x < 18446744073709551616 ∧ Hid (Lib.uvarint u = pre ++ Lib.uvarint x.toNat) ∧
      wr.ownsRow w.heap.size 5 1 b pre.length (Lib.byteCells pre) ∧ Below w.heap.size w wr) (fun t _ _ => (intOf t).toNat)
  case atStart =>
    refine ⟨[], u, by have := Lib.uvarint_length64 hz.out; simpa using this, rfl, by omega, by have := hz.out; omega, rfl, ?_, ?_⟩
    · exact World.ownsRow_lit (base := w.heap.size) (e := 5) (size := 1) w #[] 0 (Nat.le_refl _) (Nat.zero_le _) rfl
    · exact (Below.refl _ _).alloc (Nat.le_refl _) _
  case round =>
    obtain ⟨pre, x, hpl, rfl, hx0, hx1, hpre, hown, hnx⟩ := hrel
    have hyp := Lib.uvarint_pos x.toNat
    have hp9 : pre.length ≤ 9 := by omega
    have Hp : Hid (pre.length + (Lib.uvarint x.toNat).length ≤ 10) := hpl
    clear hpl hyp
    by_cases hlt : 128 ≤ x
    · go_wp2_with (at_builtin; refine wpList_append_own _ rfl _ _ 55 rfl w.heap.size 5 i0 (.int .u8 0) 1 1 Tryz.underlying55 hi hz0 hz1 hz2 rfl (by decide) _ _ _ rfl (hown.alloc _) ⟨wr.heap.size, 0, none⟩ 1 1 [Value.int .u8 (x % 128 + 128)] rfl rfl ?c1 ?c2 ?c3 ?c4 ?c5 ?_)
      case c1 => exact cell_one_new _ _ _
      case c2 => intro u hu; simp at hu; subst hu; rfl
      case c3 => unfold maxLen; omega
      case c4 => omega
      case c5 => have := hnx.size; simp; omega
      intro v' w1 hown' hgrow _
      have hnx1 : Below w.heap.size w w1 := (hnx.alloc (by have := hnx.size; omega) _).grown hgrow (by have := hnx.size; simp; omega) (fun k hk => (hown.lt k hk).1)
      go_wp2
      go_roundw
      case rel =>
        have hv : 128 ≤ x.toNat := by omega
        have e1 : (x / 128).toNat = x.toNat / 128 := by omega
        have hp := Hp.out
        have hpp := hpre.out
        rw [Lib.uvarint_big hv] at hp hpp
        simp only [List.length_cons] at hp
        refine ⟨pre ++ [(x.toNat % 128 + 128).toUInt8], x / 128, by rw [e1]; simp; omega, rfl, by omega, by omega, by rw [e1]; show Lib.uvarint u = _; rw [hpp]; simp, ?_, hnx1⟩
        have ec : ((x.toNat % 128 + 128 : Nat) : Int) = x % 128 + 128 := by omega
        rw [Lib.byteCells_snoc pre (by omega), List.length_append, List.length_singleton, ec]
        exact hown'
      case measure => simp [intOf]; omega
    · go_wp2_with (at_builtin; refine wpList_append_own _ rfl _ _ 55 rfl w.heap.size 5 i0 (.int .u8 0) 1 1 Tryz.underlying55 hi hz0 hz1 hz2 rfl (by decide) _ _ _ rfl (hown.alloc _) ⟨wr.heap.size, 0, none⟩ 1 1 [Value.int .u8 x] rfl rfl ?d1 ?d2 ?d3 ?d4 ?d5 ?_)
      case d2 => rfl
      case d3 => unfold maxLen; omega
      case d4 => omega
      case d5 => have := hnx.size; simp; omega
      intro v' w1 hown' hgrow _
      have hnx1 : Below w.heap.size w w1 := (hnx.alloc (by have := hnx.size; omega) _).grown hgrow (by have := hnx.size; simp; omega) (fun k hk => (hown.lt k hk).1)
      have ec : ((x.toNat : Nat) : Int) = x := by omega
      have hl : Lib.byteCells pre ++ [Value.int .u8 x] = Lib.byteCells (pre ++ [x.toNat.toUInt8]) := by rw [Lib.byteCells_snoc pre (by omega), ec]
      rw [hl] at hown'
      obtain ⟨g, cap, hv, hcv⟩ := text_own hown' (by simp) (by omega)
      rw [hv]
      have he := hpre.out
      rw [Lib.uvarint_small (show x.toNat < 128 by omega)] at he
      have He : Hid (_ = _) := he
      clear he hl ec hv hown' hgrow hown
      go_wp2
      go_ret
      refine ⟨?_, hnx1⟩
      simp [He.out]

theorem specPut (n : Int) (w : World) (h0 : -9223372036854775808 ≤ n) (h1 : n ≤ 9223372036854775807) :
    Calls Tryz.prog 23 #[.int .i64 n] w fun e w' => e = .returned (.string ⟨(Lib.uvarint (Lib.zigzag n)).toArray⟩) ∧ Below w.heap.size w w' :=
  specPut' n _ (rfl : Lib.zigzag n = Lib.zigzag n) w h0 h1 (Lib.zigzag_lt h0 h1)

end Go.Proofs.YtijgonjnmibifaaGreatDoor
