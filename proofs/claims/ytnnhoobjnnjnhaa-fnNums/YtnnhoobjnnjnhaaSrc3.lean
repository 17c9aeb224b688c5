/- A text drawn from a source; a number out of a code. -/
import Derived.Test.YtnnhoobjnnjnhaaSrc2
import Derived.Test.YtnnhoobjnnjnhaaPutS
namespace Go.Proofs.Ytnnhoobjnnjnhaa
open Go.RowKit

theorem Src.keep {B g : Nat} {w w' : World} (h : Src B w g) (hb : Below B w w') (hblk : w'.heap[g]? = w.heap[g]?) : Src B w' g := by
  obtain ⟨hB, hg, v, zs, a, m, s, hr, hz, ha0, ha1, hm0, hm1, hs0, hs1, ⟨c0, c1, c2, c3⟩, f1, f2, f3⟩ := h
  have hc : ∀ j, w'.cell? ⟨g, j, none⟩ = w.cell? ⟨g, j, none⟩ := fun j => World.cell?_of_block (w := w) (a := ⟨g, j, none⟩) hblk
  have hf : ∀ j, w'.frozen? ⟨g, j, none⟩ = w.frozen? ⟨g, j, none⟩ := fun j => World.frozen?_of_block (w := w) (a := ⟨g, j, none⟩) hblk
  refine ⟨hB, Nat.lt_of_lt_of_le hg hb.size, v, zs, a, m, s, hr.below hb, hz, ha0, ha1, hm0, hm1, hs0, hs1, ⟨?_, ?_, ?_, ?_⟩, ?_, ?_, ?_⟩
  · rw [hc]; exact c0
  · rw [hc]; exact c1
  · rw [hc]; exact c2
  · rw [hc]; exact c3
  · rw [hf]; exact f1
  · rw [hf]; exact f2
  · rw [hf]; exact f3

/-- a row of the call's own, written or grown, leaves the source as it was -/
theorem Src.grown {B g : Nat} {w w' : World} {row : Option Nat} (h : Src B w g) (hg : w.grownBy w' row) (hr : ∀ k, row = some k → B ≤ k ∧ k ≠ g) : Src B w' g := by
  have hg1 := h.2.1
  have hBg := h.1
  refine h.keep ((Below.refl _ _).grown hg (by omega) (fun k hk => (hr k hk).1)) (hg.block g hg1 ?_)
  intro e
  exact (hr g e.symm).2 rfl

/-- what holds of w but for g holds on behind a row that w did not have -/
theorem grownBy_row {a b c : World} {g : Nat} {row : Option Nat} (h : a.grownBy b (some g)) (k : b.grownBy c row) (hr : ∀ j, row = some j → a.heap.size ≤ j) : a.grownBy c (some g) :=
  ⟨k.os.trans h.os, k.tape.trans h.tape, k.output.trans h.output, Nat.le_trans h.size k.size, fun j hj hne => (k.block j (Nat.lt_of_lt_of_le hj h.size) (fun e => by have := hr j e.symm; omega)).trans (h.block j hj hne)⟩

set_option maxRecDepth 100000 in
set_option maxHeartbeats 800000 in
theorem srcBytes (B g : Nat) (n : Nat) (w : World) (hs : Src B w g) (hn : n ≤ 1000000) :
    Calls Try.prog 30 #[.pointer (some ⟨g, 0, none⟩), .int .i64 (n : Int)] w fun e w' => ∃ l : List UInt8, e = .returned (.string ⟨l.toArray⟩) ∧ l.length = n ∧ Src B w' g ∧ w.grownBy w' (some g) := by
  obtain ⟨i0, hi, hz0, hz1, hz2⟩ := info_parts Try.info5
  have Hs : Hid (Src B w g) := hs
  have hgw := hs.2.1
  have hBg := hs.1
  clear hs
  go_enter Try.func30, Try.ntmps30
  go_wp2
  go_loopw [5, 6] (fun b i wr => ∃ (l : List UInt8), l.length ≤ n ∧ i = .int .i64 l.length ∧ wr.ownsRow w.heap.size 5 1 b l.length (Lib.byteCells l) ∧ (l = [] → ∃ c, b = .slice (some ⟨w.heap.size, 0, none⟩) 0 c) ∧ Src B wr g ∧ w.grownBy wr (some g)) (fun _ i _ => n - (intOf i).toNat)
  case atStart =>
    refine ⟨[], Nat.zero_le _, rfl, ?_, fun _ => ⟨_, rfl⟩, Hs.out.alloc _, grownBy_alloc8 (only_refl w g) _⟩
    exact World.ownsRow_lit (base := w.heap.size) (e := 5) (size := 1) w #[] 0 (Nat.le_refl _) (Nat.zero_le _) rfl
  case round =>
    obtain ⟨l, hl, rfl, hown, hne, hsr, hgr⟩ := hrel
    by_cases hlt : l.length < n
    · have Hown : Hid (wr.ownsRow w.heap.size 5 1 u5 l.length (Lib.byteCells l)) := hown
      have Hsr : Hid (Src B wr g) := hsr
      have Hgr : Hid (w.grownBy wr (some g)) := hgr
      clear hown hsr hgr hne
      go_wp2_with fail
      refine (srcN B g 256 _ Hsr.out (by omega)).mono ?_
      rintro e w3 ⟨r, rfl, hr0, hr1, hs3, hg3⟩
      have hr2 : r < 256 := by omega
      have hown3 : w3.ownsRow w.heap.size 5 1 u5 l.length (Lib.byteCells l) := Hown.out.kept hg3 (by
        right
        intro e
        have := (Hown.out.lt g e).1
        omega)
      have Hs3 : Hid (Src B w3 g) := hs3
      have Hg3 : Hid (w.grownBy w3 (some g)) := grownBy_trans Hgr.out hg3
      have hsz3 : w.heap.size ≤ w3.heap.size := Hg3.out.size
      clear hr1 hs3 hg3
      go_wp2_with (at_builtin; refine wpList_append_own _ rfl _ _ 22 rfl w.heap.size 5 i0 (.int .u8 0) 1 1 Try.underlying22 hi hz0 hz1 hz2 rfl (by decide) _ _ _ rfl (hown3.alloc _) ⟨w3.heap.size, 0, none⟩ 1 1 [Value.int .u8 r] rfl rfl ?c1 ?c2 ?c3 ?c4 ?c5 ?_)
      case c1 => exact cell_one_new _ _ _
      case c2 => intro u hu; simp at hu; subst hu; rfl
      case c3 => unfold maxLen; omega
      case c4 => omega
      case c5 => simp; omega
      intro v' w4 hown4 hg4 hnil
      have Hs4 : Hid (Src B w4 g) := (Hs3.out.alloc _).grown hg4 (fun k hk => by have := (hown3.lt k hk).1; omega)
      have Hg4 : Hid (w.grownBy w4 (some g)) := grownBy_row (grownBy_alloc8 Hg3.out _) hg4 (fun k hk => (hown3.lt k hk).1)
      have Hown4 : Hid (w4.ownsRow w.heap.size 5 1 v' (l ++ [r.toNat.toUInt8]).length (Lib.byteCells (l ++ [r.toNat.toUInt8]))) := by
        have e1 : ((r.toNat : Nat) : Int) = r := by omega
        show w4.ownsRow w.heap.size 5 1 v' (l ++ [r.toNat.toUInt8]).length (Lib.byteCells (l ++ [r.toNat.toUInt8]))
        rw [Lib.byteCells_snoc l (by omega), List.length_append, List.length_singleton, e1]
        exact hown4
      clear hown4 hg4 hnil hown3 Hown Hsr Hgr Hs3 Hg3
      go_wp2
      go_roundw
      case rel => exact ⟨l ++ [r.toNat.toUInt8], by simp; omega, by simp, Hown4.out, fun h => by simp at h, Hs4.out, Hg4.out⟩
      case measure => simp [intOf]; omega
    · obtain ⟨ad, cap, hv, hcv⟩ : ∃ (ad : Addr) (cap : Nat), u5 = .slice (some ad) l.length cap ∧ (convert 22 9 (.slice (some ad) l.length cap)).run Try.prog wr = .ok (.string ⟨l.toArray⟩) wr := by
        by_cases hz : l = []
        · obtain ⟨c, hc⟩ := hne hz
          subst hz
          exact ⟨_, c, hc, run_convert_bytes_back wr 22 9 5 _ c [] Try.underlying22 Try.underlying5 Try.underlying9 (fun j hj => by simp at hj)⟩
        · obtain ⟨g', cap, h1, h2⟩ := text_own hown rfl (List.length_pos_iff.2 hz)
          exact ⟨_, cap, h1, h2⟩
      subst hv
      clear hown hne
      go_wp2
      go_ret
      exact ⟨l, rfl, by omega, hsr, hgr⟩

/-- a drawn text -/
theorem drawSum (v : Value) (zs : List Int) (w : World) (hr : Row8 w.heap.size w v zs) (hz : zs.length ≤ 1048576) :
    Calls Try.prog 15 #[v] w fun e w' => ∃ l : List UInt8, e = .returned (.string ⟨l.toArray⟩) ∧ l.length < 60 ∧ Below w.heap.size w w' := by
  have Hr : Hid (Row8 w.heap.size w v zs) := hr
  obtain ⟨ad, cap, rfl⟩ := hr.len
  clear hr
  go_enter Try.func15, Try.ntmps15
  go_wp2_with fail
  refine (srcNew _ zs _ Hr.out hz).mono ?_
  rintro e w1 ⟨rfl, hs1, hb1⟩
  go_wp2_with fail
  refine (srcN w.heap.size w.heap.size 60 _ hs1 (by omega)).mono ?_
  rintro e w2 ⟨x, rfl, hx0, hx1, hs2, hg2⟩
  obtain ⟨k, rfl⟩ := Int.eq_ofNat_of_zero_le hx0
  have hk : k < 60 := by omega
  have Hb2 : Hid (Below w.heap.size w w2) := hb1.trans ((Below.refl _ _).grown hg2 hb1.size (fun j hj => by simp at hj; omega))
  clear hx1 hg2 hb1 hs1
  go_wp2_with fail
  refine (srcBytes w.heap.size w.heap.size k _ hs2 (by omega)).mono ?_
  rintro e w3 ⟨l, rfl, hl, hs3, hg3⟩
  have Hb3 : Hid (Below w.heap.size w w3) := Hb2.out.trans ((Below.refl _ _).grown hg3 Hb2.out.size (fun j hj => by simp at hj; omega))
  have Hl : Hid (l.length = k) := hl
  clear hl hs3 hg3 hs2
  go_wp2_with fail
  go_ret
  exact ⟨l, rfl, by have := Hl.out; omega, Hb3.out⟩

set_option maxRecDepth 100000 in
/-- a number out of a code -/
theorem lwAt8 (v : Value) (zs : List Int) (at' : Nat) (most : Int) (w : World) (hr : Row8 w.heap.size w v zs) (hz : zs.length ≤ 1048576) (ha : at' ≤ 1000000) (hm : most ≤ 9223372036854775807) :
    Calls Try.prog 18 #[v, .int .i64 (at' : Int), .int .i64 most] w fun e w' => w' = w ∧ ∃ r : Int, e = .returned (.int .i64 r) ∧ 0 ≤ r ∧ (r = 0 ∨ r < most) := by
  have Hr : Hid (Row8 w.heap.size w v zs) := hr
  obtain ⟨ad, cap, rfl⟩ := hr.len
  clear hr
  by_cases h1 : most ≤ 1
  · go_enter Try.func18, Try.ntmps18
    go_wp2
    go_ret
    exact ⟨rfl, 0, rfl, by omega, .inl rfl⟩
  · have h1b : decide (most ≤ 1) = false := by simpa using h1
    by_cases h2 : zs.length = 0
    · have h2b : ((zs.length : Int) == 0) = true := by simp [h2]
      go_enter Try.func18, Try.ntmps18
      go_wp2
      go_ret
      exact ⟨rfl, 0, rfl, by omega, .inl rfl⟩
    · have h2b : ((zs.length : Int) == 0) = false := by rw [beq_eq_false_iff_ne]; omega
      rcases Hr.out with ⟨hzz, _⟩ | ⟨b, off, cap', he, hlt, hc⟩
      · rw [hzz] at h2; simp at h2
      · simp only [Value.slice.injEq] at he
        obtain ⟨rfl, _, rfl⟩ := he
        have hml : at' % zs.length < zs.length := Nat.mod_lt _ (by omega)
        obtain ⟨hck, hz0, hz1⟩ := hc (at' % zs.length) hml
        clear hc
        go_enter Try.func18, Try.ntmps18
        go_wp2
        go_ret
        have q0 := Int.emod_nonneg zs[at' % zs.length] (show most ≠ 0 by omega)
        have q1 := Int.emod_lt_of_pos zs[at' % zs.length] (show 0 < most by omega)
        exact ⟨rfl, _, rfl, q0, .inr q1⟩

theorem Row8.raise {B B' : Nat} {w : World} {v : Value} {zs : List Int} (h : Row8 B w v zs) (hB : B ≤ B') : Row8 B' w v zs := by
  rcases h with h | ⟨b, off, cap, rfl, hlt, hc⟩
  · exact .inl h
  · exact .inr ⟨b, off, cap, rfl, Nat.lt_of_lt_of_le hlt hB, hc⟩

/-- the same, wherever the bytes lie, the place a number -/
theorem lwAt9 (B : Nat) (v : Value) (zs : List Int) (at' most : Int) (w : World) (hr : Row8 B w v zs) (hB : B ≤ w.heap.size) (hz : zs.length ≤ 1048576) (ha0 : 0 ≤ at') (ha : at' ≤ 1000000) (hm : most ≤ 9223372036854775807) :
    Calls Try.prog 18 #[v, .int .i64 at', .int .i64 most] w fun e w' => w' = w ∧ ∃ r : Int, e = .returned (.int .i64 r) ∧ 0 ≤ r ∧ (r = 0 ∨ r < most) := by
  obtain ⟨k, rfl⟩ := Int.eq_ofNat_of_zero_le ha0
  exact lwAt8 v zs k most w (hr.raise hB) hz (by omega) hm
end Go.Proofs.Ytnnhoobjnnjnhaa
